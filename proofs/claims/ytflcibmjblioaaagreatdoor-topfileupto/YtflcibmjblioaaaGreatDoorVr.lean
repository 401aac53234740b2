/-
  Joined: Ki, Vq, Vr.
-/
import Derived.Test.YtflcibmjblioaaaGreatDoorVe4
import Derived.Test.YtflcibmjblioaaaGreatDoorVe8
import Derived.Test.YtflcibmjblioaaaGreatDoorVl
import Derived.Test.YtflcibmjblioaaaGreatDoorLze
import Derived.Test.YtflcibmjblioaaaGreatDoorAp
import Derived.Test.YtflcibmjblioaaaGreatDoorVn
import Derived.Deep.RegionLaw
import Derived.Deep.DrawnRows

/-
  The value of an object, as it is laid (file.laidValue).
-/
namespace Go.Proofs.YtflcibmjblioaaaGreatDoor
open Go.RowKit
set_option maxRecDepth 100000

/-- An object, plainly. -/
structure Ob where
  n : Int
  v : V
  st : Bool
  dt : ByteArray
def lenN : ByteArray := ⟨#[76, 101, 110, 103, 116, 104]⟩
/-- The value that is laid, an error. -/
def lvR (o : Ob) : V × Int :=
  if o.st = false then (if o.dt.size ≠ 0 then (V0 0 0 eB, 3) else (o.v, 0))
  else if o.v.k ≠ 6 then (V0 0 0 eB, 8)
  else if 20000 < o.dt.size then (V0 0 0 eB, 2)
  else (⟨o.v.k, o.v.n, o.v.s, o.v.l, psetF lenN (V0 2 (o.dt.size * 1000) eB) o.v.f⟩, 0)
/-- An object's cells. -/
def obC (n : Int) (cs : List Value) (st : Bool) (dt : ByteArray) : List Value := .int .i64 n :: (cs ++ [.bool st, .string dt])
set_option maxHeartbeats 4000000 in
theorem laidValue_says {d : Nat} {w : World} (o : Ob) (cs : List Value) (hv : RepN d w o.v cs) (hd : o.dt.size ≤ maxLen) (hc : o.v.cnt ≤ 1048576) :
    Calls Tryz.prog 63 #[.agg (obC o.n cs o.st o.dt).toArray] w fun e w' => (∃ c, e = .returned (.tuple #[.agg c.toArray, errN (lvR o).2]) ∧ RepN (d + 2) w' (lvR o).1 c) ∧ Below w.heap.size w w' := by
  obtain ⟨d', rfl⟩ := hv.inv
  have HV := hid hv
  obtain ⟨al, af, cl, cf, rfl, hsz, _⟩ := hv
  obtain ⟨n, v, st, dt⟩ := o
  unfold obC
  simp only [List.cons_append, List.nil_append] at *
  cases st
  · by_cases h0 : dt.size ≠ 0
    · have e0 : lvR ⟨n, v, false, dt⟩ = (V0 0 0 eB, 3) := by unfold lvR; rw [if_pos rfl, if_pos h0]
      rw [e0]
      have g0 : (dt.toList == []) = false := by
        rw [ByteArray.toList_eq]
        cases h : dt.data.toList with
        | nil => exact absurd (by have := congrArg List.length h; simpa using this) h0
        | cons a l => rfl
      go_enter Tryz.func63, Tryz.ntmps63
      go_wp2
      refine bodyPost_ret (v := .tuple #[.agg (vc 0 0 ⟨#[]⟩), .iface 50 (.int .i64 3)]) (by simp [results, Tryz.results63, go_sem]; try first | exact ⟨rfl, rfl⟩ | rfl) rfl ?_
      exact ⟨⟨_, rfl, rep_0 _ _⟩, by go_grown⟩
    · have e0 : lvR ⟨n, v, false, dt⟩ = (v, 0) := by unfold lvR; rw [if_pos rfl, if_neg h0]
      rw [e0]
      have hz : dt = ⟨#[]⟩ := by
        apply ByteArray.ext; exact Array.eq_empty_of_size_eq_zero (by simpa using h0)
      subst hz
      go_enter Tryz.func63, Tryz.ntmps63
      go_wp2
      refine bodyPost_ret (v := .tuple #[.agg #[.int .i64 v.k, .int .i64 v.n, .string v.s, .slice al v.l.length cl, .slice af v.f.length cf], .nilIface]) (by simp [results, Tryz.results63, go_sem]; try first | exact ⟨rfl, rfl⟩ | rfl) rfl ?_
      exact ⟨⟨_, by rw [errN_0], (HV.out.later (by go_grown)).mono (by omega)⟩, by go_grown⟩
  · by_cases h6 : v.k ≠ 6
    · have e0 : lvR ⟨n, v, true, dt⟩ = (V0 0 0 eB, 8) := by unfold lvR; rw [if_neg (by simp), if_pos h6]
      rw [e0]
      have h6' : (v.k == 6) = false := by simpa using h6
      go_enter Tryz.func63, Tryz.ntmps63
      go_wp2
      refine bodyPost_ret (v := .tuple #[.agg (vc 0 0 ⟨#[]⟩), .iface 50 (.int .i64 8)]) (by simp [results, Tryz.results63, go_sem]; try first | exact ⟨rfl, rfl⟩ | rfl) rfl ?_
      exact ⟨⟨_, rfl, rep_0 _ _⟩, by go_grown⟩
    · have h6' : v.k = 6 := by simpa using h6
      by_cases h2 : 20000 < dt.size
      · have e0 : lvR ⟨n, v, true, dt⟩ = (V0 0 0 eB, 2) := by unfold lvR; rw [if_neg (by simp), if_neg h6, if_pos h2]
        rw [e0]
        have h2' : (20000 : Int) < dt.size := by omega
        go_enter Tryz.func63, Tryz.ntmps63
        go_wp2
        refine bodyPost_ret (v := .tuple #[.agg (vc 0 0 ⟨#[]⟩), .iface 50 (.int .i64 2)]) (by simp [results, Tryz.results63, go_sem]; try first | exact ⟨rfl, rfl⟩ | rfl) rfl ?_
        exact ⟨⟨_, rfl, rep_0 _ _⟩, by go_grown⟩
      · have e0 : lvR ⟨n, v, true, dt⟩ = (⟨v.k, v.n, v.s, v.l, psetF lenN (V0 2 (dt.size * 1000) eB) v.f⟩, 0) := by unfold lvR; rw [if_neg (by simp), if_neg h6, if_neg h2]
        rw [e0]
        have h2' : ¬ (20000 : Int) < dt.size := by omega
        have hwh := fun (w : World) => whole_says (dt.size : Int) w (by omega) (by omega)
        go_enter Tryz.func63, Tryz.ntmps63
        obtain ⟨T, hT⟩ : ∃ T : V, (⟨v.k, v.n, v.s, v.l, psetF lenN (V0 2 (dt.size * 1000) eB) v.f⟩ : V) = T := ⟨_, rfl⟩
        rw [hT]
        have hS := fun (w1 : World) (h : Below w.heap.size w w1) => vSetP (v := v) (x := V0 2 (dt.size * 1000) eB) lenN (by decide) (HV.out.later h) (rep_vc d' w1 2 (dt.size * 1000) eB (by decide)) hc (by rw [cnt_eq]; simp [V0, cntL, cntF])
        rw [hT] at hS
        unfold lenN vc at hS
        simp only [h6'] at hS
        have HS := hid hS
        clear hS hT
        have AO := (At.new w #[.int .i64 n, .int .i64 6, .int .i64 v.n, .string v.s, .slice al v.l.length cl, .slice af v.f.length cf, .bool true, .string dt] 42 rfl).alloc (.cells (vc 0 0 ⟨#[]⟩) 40)
        have AR := At.new (w.alloc (.cells #[.int .i64 n, .int .i64 6, .int .i64 v.n, .string v.s, .slice al v.l.length cl, .slice af v.f.length cf, .bool true, .string dt] 42)) (vc 0 0 ⟨#[]⟩) 40 (b := w.heap.size + 1) (by simp)
        have hbA : Below w.heap.size w ((w.alloc (.cells #[.int .i64 n, .int .i64 6, .int .i64 v.n, .string v.s, .slice al v.l.length cl, .slice af v.f.length cf, .bool true, .string dt] 42)).alloc (.cells (vc 0 0 ⟨#[]⟩) 40)) := (below_box w _).alloc (by simp) _
        go_wp2_with fail
        go_region_with (first | (go_at_call 26; refine (hwh _).mono ?_; rintro e w1 ⟨rfl, hb1⟩; (have AO1 := AO.later (by first | exact hb1 | exact below_undrew hb1)); (have AR1 := AR.later (by first | exact hb1 | exact below_undrew hb1)); (have HB1 := hid (hbA.trans ((by first | exact hb1 | exact below_undrew hb1 : Below ((w.alloc (.cells #[.int .i64 n, .int .i64 6, .int .i64 v.n, .string v.s, .slice al v.l.length cl, .slice af v.f.length cf, .bool true, .string dt] 42)).alloc (.cells (vc 0 0 ⟨#[]⟩) 40)).heap.size _ w1).mono hbA.size))); (have o1 := AO1.cell 1); (have o2 := AO1.cell 2); (have o3 := AO1.cell 3); (have o4 := AO1.cell 4); (have o5 := AO1.cell 5); simp at o1 o2 o3 o4 o5; (have zo := AO1.lt)) | (go_at_call 16; refine (HS.out _ HB1.out).mono ?_; rintro e w2 ⟨⟨c, rfl, hr2⟩, hb2⟩; (have AR2 := AR1.later hb2); (have HR2 := hid hr2); (have HB2 := hid hb2); obtain ⟨al2, af2, cl2, cf2, rfl, _⟩ := hr2.now; obtain ⟨⟨r0, r1, r2, r3, r4⟩, f0, f1, f2, f3, f4⟩ := box5 AR2))
        all_goals
          go_wp2
          have hB5 := below_set5 (HB1.out.trans (HB2.out.mono HB1.out.size)) (b := w.heap.size + 1) (by omega) (.int .i64 T.k) (.int .i64 T.n) (.string T.s) (.slice al2 T.l.length cl2) (.slice af2 T.f.length cf2)
          have hA5 := At.five AR2 (.int .i64 T.k) (.int .i64 T.n) (.string T.s) (.slice al2 T.l.length cl2) (.slice af2 T.f.length cf2)
          have hz1 := AR1.lt
          have hR5 := HR2.out (set5 w2 (w.heap.size + 1) (.int .i64 T.k) (.int .i64 T.n) (.string T.s) (.slice al2 T.l.length cl2) (.slice af2 T.f.length cf2)) (by rw [set5_size]; exact Nat.le_refl _) (fun b hb => set5_other _ _ _ _ _ _ _ (by have := hb.1; omega))
          unfold set5 at hA5 hR5
          generalize World.setCell _ _ _ = wf at hB5 hA5 hR5 ⊢
          obtain ⟨⟨cx0, cx1, cx2, cx3, cx4⟩, _⟩ := five_cells hA5
          refine bodyPost_ret (v := .tuple #[.agg #[.int .i64 T.k, .int .i64 T.n, .string T.s, .slice al2 T.l.length cl2, .slice af2 T.f.length cf2], .nilIface]) (by simp [results, Tryz.results63, go_sem, cx0, cx1, cx2, cx3, cx4]; try first | exact ⟨rfl, rfl⟩ | rfl) rfl ?_
          exact ⟨⟨_, by rw [errN_0], hR5.mono (by omega)⟩, hB5⟩
end Go.Proofs.YtflcibmjblioaaaGreatDoor

/-
  The program's own text of a string: bytes behind bytes.
-/
namespace Go.Proofs.YtflcibmjblioaaaGreatDoor
open Go.RowKit
set_option maxRecDepth 100000

theorem octal (c : UInt8) (h : c.toNat < 32 ∨ 126 < c.toNat) : ∃ o : Nat → UInt8, escS c = [92, o 0, o 1, o 2] ∧ ((o 0).toNat : Int) = 48 + (c.toNat : Int) / 64 ∧ ((o 1).toNat : Int) = 48 + (c.toNat : Int) / 8 % 8 ∧ ((o 2).toNat : Int) = 48 + (c.toNat : Int) % 8 := by
  have hc := c.toNat_lt
  have hne : ¬ (c = 40 ∨ c = 41 ∨ c = 92) := by
    rintro (h | h | h) <;> (subst h; simp at *)
  refine ⟨fun k => if k = 0 then UInt8.ofNat (48 + c.toNat / 64) else if k = 1 then UInt8.ofNat (48 + c.toNat / 8 % 8) else UInt8.ofNat (48 + c.toNat % 8), ?_, ?_, ?_, ?_⟩
  · unfold escS; rw [if_neg hne, if_neg (by omega)]; rfl
  · simp; omega
  · simp; omega
  · simp; omega
set_option maxHeartbeats 1000000 in
theorem addString_says (s : ByteArray) (B : Nat) (sv : Value) (xs : List UInt8) (w : World) (hs : s.size ≤ 100000) (hown : Own8 w B sv xs) (hB : B ≤ w.heap.size) (hlim : xs.length ≤ 100000000) :
    Calls Tryz.prog 106 #[sv, .string s] w fun e w' => ∃ v', e = .returned v' ∧ Own8 w' B v' (xs ++ strT s.data.toList) ∧ Kept8 B w w' := by
  go_enter Tryz.func106, Tryz.ntmps106
  go_wp2_with (at_builtin; refine wpApp8 rfl (.tmp 8) (.tmp 9) rfl B _ xs rfl hown _ [40] 1 1 rfl rfl rfl (by omega) hB ?_)
  intro v1 w1 hown1 hk1
  go_wp2
  go_loopw [0, 13] (fun t i wr => ∃ k : Nat, i = .int .i64 k ∧ k ≤ s.size ∧ Own8 wr B t (xs ++ 40 :: (s.data.toList.take k).flatMap escS) ∧ Kept8 B w wr) (fun _ i _ => s.size - (intOf i).toNat)
  case atStart => exact ⟨0, rfl, Nat.zero_le _, by simpa using hown1, hk1⟩
  case round =>
    clear hown1 hk1 hown
    obtain ⟨k, rfl, hk, hown, hb⟩ := hrel
    have hbs := hb.size
    have hfl2 : ((s.data.toList.take k).flatMap escS).length ≤ 400000 := by
      have hfl := flat_len (s.data.toList.take k)
      have : (s.data.toList.take k).length ≤ s.size := by simp; omega
      omega
    generalize hpre : (s.data.toList.take k).flatMap escS = pre at *
    have HPR := hid hpre
    clear hpre
    by_cases hlt : k < s.size
    · have HT := hid (take_snoc s k hlt)
      have hc256 := s[k].toNat_lt
      by_cases hp1 : (s[k].toNat : Int) < 32
      · obtain ⟨o, ho, q0, q1, q2⟩ := octal s[k] (by omega)
        have HE := hid ho
        clear ho
        go_wp2_with (at_builtin; refine wpApp8 rfl (.tmp 30) (.tmp 31) rfl B _ _ rfl hown _ [92] 1 1 rfl rfl rfl (by simp; omega) (by omega) ?_)
        intro v2 w2 hown2 hk2
        have hb2 := hb.trans hk2
        clear hown hk2 hb
        go_wp2
        go_loopw [0, 33] (fun t i wq => ∃ m : Nat, i = .int .i64 m ∧ m ≤ 3 ∧ Own8 wq B t (xs ++ 40 :: pre ++ 92 :: (List.range m).map o) ∧ Kept8 B w wq) (fun _ i _ => 3 - (intOf i).toNat)
        case atStart => exact ⟨0, rfl, by omega, by simpa using hown2, hb2⟩
        case round =>
          clear hown2 hb2 hbs
          obtain ⟨m, rfl, hm, hown, hb⟩ := hrel
          have hbs := hb.size
          rcases (by omega : m = 0 ∨ m = 1 ∨ m = 2 ∨ m = 3) with rfl | rfl | rfl | rfl
          · go_wp2_with (at_builtin; refine wpApp8 rfl (.tmp 36) (.tmp 44) rfl B _ _ rfl hown _ [o 0] 1 1 rfl rfl ?cc (by simp; omega) (by omega) ?_)
            case cc => exact one8 (by omega)
            intro v3 w3 hown3 hk3
            have hb3 := hb.trans hk3
            clear hown hk3 hb
            go_wp2
            go_roundw
            case rel => exact ⟨1, by go_num, by omega, by simpa [List.range_succ] using hown3, hb3⟩
            case measure => simp [intOf]
          · go_wp2_with (at_builtin; refine wpApp8 rfl (.tmp 36) (.tmp 44) rfl B _ _ rfl hown _ [o 1] 1 1 rfl rfl ?cc (by simp; omega) (by omega) ?_)
            case cc => exact one8 (by omega)
            intro v3 w3 hown3 hk3
            have hb3 := hb.trans hk3
            clear hown hk3 hb
            go_wp2
            go_roundw
            case rel => exact ⟨2, by go_num, by omega, by simpa [List.range_succ] using hown3, hb3⟩
            case measure => simp [intOf]
          · go_wp2_with (at_builtin; refine wpApp8 rfl (.tmp 36) (.tmp 44) rfl B _ _ rfl hown _ [o 2] 1 1 rfl rfl ?cc (by simp; omega) (by omega) ?_)
            case cc => exact one8 (by omega)
            intro v3 w3 hown3 hk3
            have hb3 := hb.trans hk3
            clear hown hk3 hb
            go_wp2
            go_roundw
            case rel => exact ⟨3, by go_num, by omega, by simpa [List.range_succ] using hown3, hb3⟩
            case measure => simp [intOf]
          · go_wp2
            go_roundw
            case rel =>
              refine ⟨k + 1, by go_num, by omega, ?_, hb⟩
              rw [HT.out, List.flatMap_append, HPR.out, List.flatMap_singleton, HE.out]
              simpa [List.range_succ] using hown
            case measure => simp [intOf]; omega
      by_cases hp2 : (126 : Int) < (s[k].toNat : Int)
      · obtain ⟨o, ho, q0, q1, q2⟩ := octal s[k] (by omega)
        have HE := hid ho
        clear ho
        go_wp2_with (at_builtin; refine wpApp8 rfl (.tmp 30) (.tmp 31) rfl B _ _ rfl hown _ [92] 1 1 rfl rfl rfl (by simp; omega) (by omega) ?_)
        intro v2 w2 hown2 hk2
        have hb2 := hb.trans hk2
        clear hown hk2 hb
        go_wp2
        go_loopw [0, 33] (fun t i wq => ∃ m : Nat, i = .int .i64 m ∧ m ≤ 3 ∧ Own8 wq B t (xs ++ 40 :: pre ++ 92 :: (List.range m).map o) ∧ Kept8 B w wq) (fun _ i _ => 3 - (intOf i).toNat)
        case atStart => exact ⟨0, rfl, by omega, by simpa using hown2, hb2⟩
        case round =>
          clear hown2 hb2 hbs
          obtain ⟨m, rfl, hm, hown, hb⟩ := hrel
          have hbs := hb.size
          rcases (by omega : m = 0 ∨ m = 1 ∨ m = 2 ∨ m = 3) with rfl | rfl | rfl | rfl
          · go_wp2_with (at_builtin; refine wpApp8 rfl (.tmp 36) (.tmp 44) rfl B _ _ rfl hown _ [o 0] 1 1 rfl rfl ?cc (by simp; omega) (by omega) ?_)
            case cc => exact one8 (by omega)
            intro v3 w3 hown3 hk3
            have hb3 := hb.trans hk3
            clear hown hk3 hb
            go_wp2
            go_roundw
            case rel => exact ⟨1, by go_num, by omega, by simpa [List.range_succ] using hown3, hb3⟩
            case measure => simp [intOf]
          · go_wp2_with (at_builtin; refine wpApp8 rfl (.tmp 36) (.tmp 44) rfl B _ _ rfl hown _ [o 1] 1 1 rfl rfl ?cc (by simp; omega) (by omega) ?_)
            case cc => exact one8 (by omega)
            intro v3 w3 hown3 hk3
            have hb3 := hb.trans hk3
            clear hown hk3 hb
            go_wp2
            go_roundw
            case rel => exact ⟨2, by go_num, by omega, by simpa [List.range_succ] using hown3, hb3⟩
            case measure => simp [intOf]
          · go_wp2_with (at_builtin; refine wpApp8 rfl (.tmp 36) (.tmp 44) rfl B _ _ rfl hown _ [o 2] 1 1 rfl rfl ?cc (by simp; omega) (by omega) ?_)
            case cc => exact one8 (by omega)
            intro v3 w3 hown3 hk3
            have hb3 := hb.trans hk3
            clear hown hk3 hb
            go_wp2
            go_roundw
            case rel => exact ⟨3, by go_num, by omega, by simpa [List.range_succ] using hown3, hb3⟩
            case measure => simp [intOf]
          · go_wp2
            go_roundw
            case rel =>
              refine ⟨k + 1, by go_num, by omega, ?_, hb⟩
              rw [HT.out, List.flatMap_append, HPR.out, List.flatMap_singleton, HE.out]
              simpa [List.range_succ] using hown
            case measure => simp [intOf]; omega
      by_cases h40 : (s[k].toNat : Int) = 40
      · have HE := hid (show escS s[k] = [92, 40] by rw [u8_of (k := 40) h40]; rfl)
        go_wp2_with (at_builtin; refine wpApp8 rfl (.tmp 58) (.tmp 60) rfl B _ _ rfl hown _ [92, 40] 2 2 rfl rfl rfl (by simp; omega) (by omega) ?_)
        intro v2 w2 hown2 hk2
        have hb2 := hb.trans hk2
        clear hown hk2 hb
        go_wp2
        go_roundw
        case rel =>
          refine ⟨k + 1, by go_num, by omega, ?_, hb2⟩
          rw [HT.out, List.flatMap_append, HPR.out, List.flatMap_singleton, HE.out]
          simpa using hown2
        case measure => simp [intOf]; omega
      by_cases h41 : (s[k].toNat : Int) = 41
      · have HE := hid (show escS s[k] = [92, 41] by rw [u8_of (k := 41) h41]; rfl)
        go_wp2_with (at_builtin; refine wpApp8 rfl (.tmp 58) (.tmp 60) rfl B _ _ rfl hown _ [92, 41] 2 2 rfl rfl rfl (by simp; omega) (by omega) ?_)
        intro v2 w2 hown2 hk2
        have hb2 := hb.trans hk2
        clear hown hk2 hb
        go_wp2
        go_roundw
        case rel =>
          refine ⟨k + 1, by go_num, by omega, ?_, hb2⟩
          rw [HT.out, List.flatMap_append, HPR.out, List.flatMap_singleton, HE.out]
          simpa using hown2
        case measure => simp [intOf]; omega
      by_cases h92 : (s[k].toNat : Int) = 92
      · have HE := hid (show escS s[k] = [92, 92] by rw [u8_of (k := 92) h92]; rfl)
        go_wp2_with (at_builtin; refine wpApp8 rfl (.tmp 58) (.tmp 60) rfl B _ _ rfl hown _ [92, 92] 2 2 rfl rfl rfl (by simp; omega) (by omega) ?_)
        intro v2 w2 hown2 hk2
        have hb2 := hb.trans hk2
        clear hown hk2 hb
        go_wp2
        go_roundw
        case rel =>
          refine ⟨k + 1, by go_num, by omega, ?_, hb2⟩
          rw [HT.out, List.flatMap_append, HPR.out, List.flatMap_singleton, HE.out]
          simpa using hown2
        case measure => simp [intOf]; omega
      have hne : ¬ (s[k] = 40 ∨ s[k] = 41 ∨ s[k] = 92) := by
        rintro (h | h | h)
        · exact h40 (by rw [h]; rfl)
        · exact h41 (by rw [h]; rfl)
        · exact h92 (by rw [h]; rfl)
      have HE := hid (show escS s[k] = [s[k]] by unfold escS; rw [if_neg hne, if_pos (by omega)])
      clear hne
      have b40 : ((s[k].toNat : Int) == 40) = false := by simpa using h40
      have b41 : ((s[k].toNat : Int) == 41) = false := by simpa using h41
      have b92 : ((s[k].toNat : Int) == 92) = false := by simpa using h92
      go_wp2_with (at_builtin; refine wpApp8 rfl (.tmp 19) (.tmp 21) rfl B _ _ rfl hown _ [s[k]] 1 1 rfl rfl rfl (by simp; omega) (by omega) ?_)
      intro v2 w2 hown2 hk2
      have hb2 := hb.trans hk2
      clear hown hk2 hb
      go_wp2
      go_roundw
      case rel =>
        refine ⟨k + 1, by go_num, by omega, ?_, hb2⟩
        rw [HT.out, List.flatMap_append, HPR.out, List.flatMap_singleton, HE.out]
        simpa using hown2
      case measure => simp [intOf]; omega
    · have hke : k = s.size := by omega
      have HPE := hid (show strT s.data.toList = 40 :: pre ++ [41] by have := HPR.out; rw [hke, List.take_of_length_le (by simp)] at this; unfold strT; rw [this])
      go_wp2_with (at_builtin; refine wpApp8 rfl (.tmp 63) (.tmp 64) rfl B _ _ rfl hown _ [41] 1 1 rfl rfl rfl (by simp; omega) (by omega) ?_)
      intro v2 w2 hown2 hk2
      have hb2 := hb.trans hk2
      clear hown hk2 hb
      go_wp2
      go_ret
      refine ⟨v2, rfl, ?_, hb2⟩
      rw [HPE.out]
      simpa using hown2
end Go.Proofs.YtflcibmjblioaaaGreatDoor

/-
  The program's own text of a name.
-/
namespace Go.Proofs.YtflcibmjblioaaaGreatDoor
open Go.RowKit
set_option maxRecDepth 100000
attribute [local go_sem ↓] Go.wp_at_zero Go.wp_at_succ

theorem hard_contains (c : UInt8) : [40, 41, 60, 62, 91, 93, 123, 125, 47, 37, 35].contains c = hardN c := by
  unfold hardN; rw [Bool.eq_iff_iff]; simp [or_assoc]
theorem indexByte_hard (c : UInt8) : (0 ≤ Lib.indexByte [40, 41, 60, 62, 91, 93, 123, 125, 47, 37, 35] c) ↔ hardN c = true := by
  rw [← hard_contains]
  have h := indexByte_neg [40, 41, 60, 62, 91, 93, 123, 125, 47, 37, 35] c
  cases hh : [40, 41, 60, 62, 91, 93, 123, 125, 47, 37, 35].contains c
  · rw [hh] at h
    have := h.2 rfl
    exact iff_of_false (by omega) (by simp)
  · rw [hh] at h
    exact iff_of_true (by have : ¬ Lib.indexByte [40, 41, 60, 62, 91, 93, 123, 125, 47, 37, 35] c < 0 := fun h' => by cases h.1 h'
                          omega) rfl
theorem and15 (c : UInt8) : bits .and .u8 (c.toNat : Int) 15 = (c.toNat : Int) % 16 := by
  have h : ∀ x : Fin 256, bits .and .u8 (x.1 : Int) 15 = (x.1 : Int) % 16 := by decide
  exact h ⟨c.toNat, c.toNat_lt⟩

set_option maxHeartbeats 1000000 in
theorem addName_says (s : ByteArray) (B : Nat) (sv : Value) (xs : List UInt8) (w : World) (hs : s.size ≤ 100000) (hown : Own8 w B sv xs) (hB : B ≤ w.heap.size) (hlim : xs.length ≤ 100000000) :
    Calls Tryz.prog 107 #[sv, .string s] w fun e w' => ∃ v', e = .returned v' ∧ Own8 w' B v' (xs ++ nameT s.data.toList) ∧ Grew sv w v' w' := by
  go_enter Tryz.func107, Tryz.ntmps107
  go_wp2_with (at_builtin; refine wpApp8g rfl (.tmp 7) (.tmp 8) rfl B _ xs rfl (hown.alloc _) w.heap.size [47] 1 1 rfl (0, 0) rfl _ rfl (heap_alloc_new _ _) (by omega) (by simp; omega) ?_)
  intro v1 w1 hown1 hk1
  replace hk1 := hk1.unalloc
  go_wp2
  go_loopw [0, 12] (fun t i wr => ∃ k : Nat, i = .int .i64 k ∧ k ≤ s.size ∧ Own8 wr B t (xs ++ 47 :: (s.data.toList.take k).flatMap escN) ∧ Grew sv w t wr) (fun _ i _ => s.size - (intOf i).toNat)
  case atStart => exact ⟨0, rfl, Nat.zero_le _, by simpa using hown1, hk1⟩
  case round =>
    clear hown1 hk1 hown
    obtain ⟨k, rfl, hk, hown, hb⟩ := hrel
    have hbs := hb.size
    have hfl2 : ((s.data.toList.take k).flatMap escN).length ≤ 400000 := by
      have hfl := flatN_len (s.data.toList.take k)
      have : (s.data.toList.take k).length ≤ s.size := by simp; omega
      omega
    generalize hpre : (s.data.toList.take k).flatMap escN = pre at *
    have HPR := hid hpre
    clear hpre
    by_cases hlt : k < s.size
    · have HT := hid (take_snoc s k hlt)
      have hc256 := s[k].toNat_lt
      have ex : ∃ a b : Nat, (s[k].toNat : Int) / 16 = a ∧ (s[k].toNat : Int) % 16 = b ∧ a < 16 ∧ b < 16 ∧ s[k].toNat / 16 = a ∧ s[k].toNat % 16 = b := ⟨s[k].toNat / 16, s[k].toNat % 16, by omega, by omega, by omega, by omega, rfl, rfl⟩
      obtain ⟨a, b, ea, eb, la, lb, na, nb⟩ := ex
      have HAB := hid (And.intro na nb)
      clear na nb
      have la' : (a : Int) < 16 := by omega
      have lb' : (b : Int) < 16 := by omega
      have h15 : bits .and .u8 (s[k].toNat : Int) 15 = (b : Int) := by rw [and15, eb]
      have HX := hid (indexByte_hard s[k])
      go_upto_region 6 with fail
      go_cut [5, 6, 28] from 18 to 28 (fun i c t wx => i = .int .i64 k ∧ c = .int .u8 (s[k].toNat : Int) ∧ t = .bool (!(decide (32 < s[k].toNat ∧ s[k].toNat < 127 ∧ hardN s[k] = false))) ∧ wx = wr)
      case first =>
        by_cases h33 : (s[k].toNat : Int) < 33
        · go_wp2_with fail
          go_meet
          exact ⟨rfl, rfl, congrArg Value.bool (by simp; omega), rfl⟩
        by_cases h126 : (126 : Int) < s[k].toNat
        · go_wp2_with fail
          go_meet
          exact ⟨rfl, rfl, congrArg Value.bool (by simp; omega), rfl⟩
        go_wp2_with (go_at_call 122; refine (Tryz.strings_IndexByte _ _ _).mono ?_; rintro e w1 ⟨rfl, rfl⟩)
        go_meet
        refine ⟨rfl, rfl, congrArg Value.bool ?_, rfl⟩
        have := HX.out
        rw [Bool.eq_iff_iff]
        simp only [decide_eq_true_eq, Bool.not_eq_true', decide_eq_false_iff_not]
        rw [this]
        cases hardN s[k]
        · exact iff_of_false (by simp) (fun h => h ⟨by omega, by omega, rfl⟩)
        · exact iff_of_true rfl (fun h => by cases h.2.2)
      case rest =>
        obtain ⟨rfl, rfl, rfl, rfl⟩ := hcut
        by_cases hp : 32 < s[k].toNat ∧ s[k].toNat < 127 ∧ hardN s[k] = false
        · have HE := hid (show escN s[k] = [s[k]] by unfold escN; rw [if_pos hp])
          have hd : decide (32 < s[k].toNat ∧ s[k].toNat < 127 ∧ hardN s[k] = false) = true := decide_eq_true hp
          clear hp
          rw [hd]
          go_wp2_with (at_builtin; refine wpApp8g rfl (.tmp 38) (.tmp 40) rfl B _ _ rfl (hown.alloc _) wc.heap.size [s[k]] 1 1 rfl (0, 0) rfl _ rfl (heap_alloc_new _ _) (by simp; omega) (by simp; omega) ?_)
          intro v2 w2 hown2 hk2
          have hb2 := hb.trans hk2.unalloc
          clear hown hk2 hb
          go_wp2
          go_roundw
          case rel =>
            refine ⟨k + 1, by go_num, by omega, ?_, hb2⟩
            rw [HT.out, List.flatMap_append, HPR.out, List.flatMap_singleton, HE.out]
            simpa using hown2
          case measure => simp [intOf]; omega
        · have HE := hid (show escN s[k] = [35, hexD a, hexD b] by unfold escN; rw [if_neg hp, HAB.out.1, HAB.out.2])
          have hd : decide (32 < s[k].toNat ∧ s[k].toNat < 127 ∧ hardN s[k] = false) = false := decide_eq_false hp
          clear hp
          rw [hd]
          go_wp2_with fail
          go_region_law ((refine stepApp8g (by rfl) (.tmp 29) (.tmp 36) (by rfl) B _ (xs ++ 47 :: pre) (by rfl) (by exact hown.alloc _) wc.heap.size [35, hexD a, hexD b] 3 3 (by rfl) (0, 0) (by rfl) _ (by rw [← hexD_tbl a la, ← hexD_tbl b lb]) (by exact heap_alloc_new _ _) (by simp; omega) (by simp; omega) ?_; intro v2 w2 hown2 hk2))
          all_goals
            have hb2 := hb.trans hk2.undrew.unalloc
            clear hown hk2 hb
            go_wp2
            go_roundw
            case rel =>
              refine ⟨k + 1, by go_num, by omega, ?_, hb2⟩
              rw [HT.out, List.flatMap_append, HPR.out, List.flatMap_singleton, HE.out]
              simpa using hown2
            case measure => simp [intOf]; omega
    · have hke : k = s.size := by omega
      have HPE := hid (show nameT s.data.toList = 47 :: pre by have := HPR.out; rw [hke, List.take_of_length_le (by simp)] at this; unfold nameT; rw [this])
      go_wp2
      go_ret
      refine ⟨_, rfl, ?_, hb⟩
      rw [HPE.out]
      exact hown
end Go.Proofs.YtflcibmjblioaaaGreatDoor
