/-
  Joined: Rz, Qu, Za.
-/
import Derived.Test.YtfkjoppehbmomaaGreatDoorKb
import Derived.Test.YtfkjoppehbmomaaGreatDoorYy
import Derived.Test.YtfkjoppehbmomaaGreatDoorVa
import Derived.Test.YtfkjoppehbmomaaGreatDoorYb
import Derived.Test.YtfkjoppehbmomaaGreatDoorYx

/-
  What the row's list and the world's shape give to reading: the tables, and two errors that are there.
-/
namespace Go.Proofs.YtfkjoppehbmomaaGreatDoor
open Go.ChangeShapes Go.WideShapes Go.ChangeAt Go.RowKit
set_option maxRecDepth 100000

theorem gSyn : Tryz.prog.globalNamed "strconv.ErrSyntax" = some 2 := by kernel_rfl
theorem gSynType : (Tryz.prog.globals[2]?).map (·.type) = some 28 := by kernel_rfl
theorem gRng : Tryz.prog.globalNamed "strconv.ErrRange" = some 3 := by kernel_rfl
theorem gRngType : (Tryz.prog.globals[3]?).map (·.type) = some 28 := by kernel_rfl
theorem errStar : "*" ++ "errors.errorString" = "*errors.errorString" := by decide
theorem rowErrS (u : TypeId) (h : Tryz.prog.typeName? 3 u = some "*errors.errorString") : u = 159 :=
  typeName_ptr_named (nm := "errors.errorString") (by rw [errStar]; kernel_rfl) (by kernel_rfl) (by decide) u (by rw [errStar]; exact h)
theorem cellsErrS : Tryz.prog.cellsOf 161 = 1 := by kernel_rfl
theorem gr_of {W : World} (hL : laidMet Tryz.prog [("math/bits.deBruijn32tab", Rows.laid_math_bits_deBruijn32tab), ("math/bits.deBruijn64tab", Rows.laid_math_bits_deBruijn64tab), ("internal/strconv.uint64pow10", Rows.laid_internal_strconv_uint64pow10), ("strconv.ErrRange", Rows.laid_strconv_ErrRange), ("strconv.ErrSyntax", Rows.laid_strconv_ErrSyntax)] W) (hsh : W.ShapedOpen Tryz.prog) : ∃ m, Gr m W := by
  obtain ⟨m, hm⟩ := cell_of_shapedOpen_int (P := Tryz.prog) (g := 0) (t := 3) (zero := #[.int .i64 0]) hsh (of_decide_eq_true (by kernel_rfl)) (by kernel_rfl) rfl (by kernel_rfl) (by kernel_rfl) Tryz.underlying3
  have h3 := laidMet.tail (laidMet.tail (laidMet.tail hL))
  obtain ⟨a0, s0, hv0, -, -, -⟩ := laid_sentinel h3 gRng gRngType Tryz.underlying28 rowErrS Tryz.underlying159 Tryz.underlying161 rfl rfl Tryz.underlying9 cellsErrS cellsStr
  obtain ⟨a1, s1, hv1, -, -, -⟩ := laid_sentinel (laidMet.tail h3) gSyn gSynType Tryz.underlying28 rowErrS Tryz.underlying159 Tryz.underlying161 rfl rfl Tryz.underlying9 cellsErrS cellsStr
  exact ⟨m, ⟨Lib.tabIs_of_head gPow gPowType Tryz.underlying145 Tryz.underlying128 cellsU64 cellsPow (laidMet.tail (laidMet.tail hL)), hm⟩,
    ⟨_, by have h0 := World.var?_cell gSyn hv1 0; simpa using h0, .inr ⟨_, _, rfl⟩⟩, ⟨_, by have h0 := World.var?_cell gRng hv0 0; simpa using h0, .inr ⟨_, _, rfl⟩⟩⟩
abbrev synS : ByteArray := { data := #[105, 110, 118, 97, 108, 105, 100, 32, 115, 121, 110, 116, 97, 120] }
abbrev rngS : ByteArray := { data := #[118, 97, 108, 117, 101, 32, 111, 117, 116, 32, 111, 102, 32, 114, 97, 110, 103, 101] }
/-- So many blocks has the settled world. -/
noncomputable def low : Nat := (World.holding Tryz.prog default ⟨#[], #[], []⟩).heap.size
def sentBlock (a : Nat) : Obj → Obj
  | .cells _ t frozen => .cells #[.iface 159 (.pointer (some ⟨a, 0, none⟩))] t frozen
  | o => o
/-- A world for the witness: the settled one, the tables and the two errors as their initialisers lay them. -/
noncomputable def laidWorld5 (os : Os) : World :=
  { World.holding Tryz.prog os ⟨#[.cells #[.string synS] 161, .cells #[.string rngS] 161], #[], []⟩ with heap := ((laidHeap (World.holding Tryz.prog os ⟨#[.cells #[.string synS] 161, .cells #[.string rngS] 161], #[], []⟩).heap).modify 2 (sentBlock low)).modify 3 (sentBlock (low + 1)) }
end Go.Proofs.YtfkjoppehbmomaaGreatDoor

/-
  Filters of the document's answer: digits to the base 16 are taken apart.
-/
namespace Go.Proofs.YtfkjoppehbmomaaGreatDoor
open Go.RowKit
set_option maxRecDepth 100000

theorem rBlankK (c : UInt8) (n : Int) (h : n = (c.toNat : Int)) (w : World) :
    Calls Tryz.prog 18 #[.int .u8 n] w fun e w' => e = .returned (.bool (isBl c)) ∧ w' = w := by
  subst h; exact rBlank c w
theorem rHexK (c : UInt8) (n : Int) (h : n = (c.toNat : Int)) (w : World) :
    Calls Tryz.prog 16 #[.int .u8 n] w fun e w' => e = .returned (.int .i64 (hexV c)) ∧ w' = w := by
  subst h; exact rHex c w
/-- How many digits there were, and the last one. -/
def Half (p : Option Nat) (N X : Int) : Prop := (p = none → N % 2 = 0) ∧ (∀ x, p = some x → N % 2 = 1 ∧ X = (x : Int) ∧ x < 16)
set_option maxHeartbeats 1000000 in
theorem rUnhex (s : ByteArray) (k0 : Nat) (w : World) (hk0 : k0 ≤ s.size) (hs : s.size ≤ 100000) :
    Calls Tryz.prog 49 #[.string s, .int .i64 k0] w fun e w' => e = .returned (.tuple #[.string ⟨(hexTk (s.data.toList.drop k0) none [] k0).2.1.toArray⟩, .int .i64 ((hexTk (s.data.toList.drop k0) none [] k0).2.2 : Nat), .int .i64 (hexTk (s.data.toList.drop k0) none [] k0).1]) ∧ Below w.heap.size w w' := by
  generalize hR : hexTk (s.data.toList.drop k0) none [] k0 = R
  have HR0 := hid hR
  clear hR
  go_enter Tryz.func49, Tryz.ntmps49
  go_wp2
  go_loopw [1, 7, 8, 9] (fun av bv nv xv wr => ∃ (k : Nat) (p : Option Nat) (pre : List UInt8) (N X : Int), av = .int .i64 k ∧ k ≤ s.size ∧ nv = .int .i64 N ∧ xv = .int .i64 X ∧ 0 ≤ N ∧ N ≤ k ∧ Half p N X ∧ pre.length ≤ k ∧ hexTk (s.data.toList.drop k) p pre k = R ∧ Own8 wr w.heap.size bv pre ∧ Below w.heap.size w wr) (fun av _ _ _ _ => s.size - (intOf av).toNat)
  case atStart => exact ⟨k0, none, [], 0, 0, rfl, hk0, rfl, rfl, by omega, by omega, ⟨(fun _ => rfl), (fun _ h => by cases h)⟩, by simp, HR0.out, Own8.nil _ _, Below.refl _ _⟩
  case round =>
    clear HR0
    obtain ⟨k, p, pre, N, X, rfl, hk, rfl, rfl, hN0, hNk, hH, hpl, hR, hown, hb⟩ := hrel
    have hbs := hb.size
    have HR := hid hR
    have HH := hid hH
    clear hR hH
    by_cases hlt : k < s.size
    · have HS := hid (hexTk_step s k p pre hlt)
      have hlt' : (k : Int) < s.size := by omega
      have hc := s[k].toNat_lt
      cases b0 : (s[k] == 62)
      case true =>
        have B0 := hid b0
        have q0 : (s[k].toNat : Int) = 62 := by rw [eq_of_beq b0]; rfl
        have h1 := HR.out
        rw [HS.out, if_pos b0] at h1
        have HRE := hid h1
        clear b0 h1
        cases p with
        | none =>
          have hn2 := HH.out.1 rfl
          have hcv := own8_conv hown
          go_wp2
          go_ret3
          refine ⟨?_, hb⟩
          rw [← HRE.out]; simp [pend]
        | some x =>
          obtain ⟨hn2, rfl, hx16⟩ := HH.out.2 x rfl
          obtain ⟨y, q1, hy⟩ : ∃ y : UInt8, (y.toNat : Int) = 16 * (x : Int) ∧ pend (some x) = [y] := ⟨UInt8.ofNat (16 * x), by simp only [UInt8.toNat_ofNat']; omega, rfl⟩
          have HY := hid hy
          clear hy
          go_wp2_with (at_builtin; refine wpApp8 rfl (.tmp 24) (.tmp 28) rfl w.heap.size _ pre rfl hown _ [y] 1 1 rfl rfl ?cc (by omega) hbs ?_)
          case cc => first | exact one8 q1 | (unfold byteV; rw [q1])
          intro v1 w1 hown1 hk1
          have hcv := own8_conv hown1
          go_wp2
          go_ret3
          refine ⟨?_, hb.trans hk1.below⟩
          rw [← HRE.out, HY.out]; rfl
      case false =>
        have B0 := hid b0
        have q0 : ((s[k].toNat : Int) == 62) = false := by rw [← b0]; exact beq_u8 s[k] 62
        clear b0
        cases b1 : isBl s[k]
        case true =>
          have B1 := hid b1
          go_wp2_with (go_at_call 18; refine (rBlank s[k] _).mono ?_; rintro e w1 ⟨rfl, rfl⟩)
          go_roundw
          case rel =>
            refine ⟨k + 1, p, pre, N, X, by go_num, by omega, rfl, rfl, hN0, by omega, HH.out, by omega, ?_, hown, hb⟩
            have h1 := HR.out
            rw [HS.out, if_neg (by rw [B0.out]; simp), if_pos B1.out] at h1
            exact h1
          case measure => simp [intOf]; omega
        case false =>
          have B1 := hid b1
          by_cases hv : hexV s[k] < 0
          · go_wp2_with (first
              | (go_at_call 18; refine (rBlank s[k] _).mono ?_; rintro e w1 ⟨rfl, rfl⟩)
              | (go_at_call 16; refine (rHex s[k] _).mono ?_; rintro e w1 ⟨rfl, rfl⟩))
            go_ret3
            refine ⟨?_, hb⟩
            have h1 := HR.out
            rw [HS.out, if_neg (by rw [B0.out]; simp), if_neg (by rw [B1.out]; simp), if_pos hv] at h1
            rw [← h1]; rfl
          · have hvr := hexV_rng s[k]
            obtain ⟨d, hd⟩ : ∃ d : Nat, hexV s[k] = d := ⟨(hexV s[k]).toNat, by omega⟩
            have hd16 : d < 16 := by omega
            have HD := hid hd
            have HQ := hid (show (hexV s[k]).toNat = d by omega)
            clear hvr hv
            cases p with
            | none =>
              have hn2 := HH.out.1 rfl
              go_wp2_with (first
                | (go_at_call 18; refine (rBlank s[k] _).mono ?_; rintro e w1 ⟨rfl, rfl⟩)
                | (go_at_call 16; refine (rHex s[k] _).mono ?_; rintro e w1 ⟨rfl, rfl⟩))
              go_roundw
              case rel =>
                refine ⟨k + 1, some d, pre, N + 1, d, by go_num, by omega, rfl, rfl, by omega, by omega, ⟨(fun h => by cases h), (fun x hx => by cases hx; exact ⟨by omega, rfl, hd16⟩)⟩, by omega, ?_, hown, hb⟩
                have h1 := HR.out
                rw [HS.out, if_neg (by rw [B0.out]; simp), if_neg (by rw [B1.out]; simp), if_neg (by have := HD.out; omega), HQ.out] at h1
                exact h1
              case measure => simp [intOf]; omega
            | some x =>
              obtain ⟨hn2, rfl, hx16⟩ := HH.out.2 x rfl
              obtain ⟨y, q1, hy⟩ : ∃ y : UInt8, (y.toNat : Int) = 16 * (x : Int) + d ∧ UInt8.ofNat (16 * x + d) = y := ⟨UInt8.ofNat (16 * x + d), by simp only [UInt8.toNat_ofNat']; omega, rfl⟩
              have HY := hid hy
              clear hy
              go_wp2_with (first
                | (go_at_call 18; refine (rBlank s[k] _).mono ?_; rintro e w1 ⟨rfl, rfl⟩)
                | (go_at_call 16; refine (rHex s[k] _).mono ?_; rintro e w1 ⟨rfl, rfl⟩)
                | (at_builtin; refine wpApp8 rfl (.tmp 47) (.tmp 53) rfl w.heap.size _ pre rfl hown _ [y] 1 1 rfl rfl ?cc (by omega) hbs ?_))
              case cc => first | exact one8 q1 | (unfold byteV; rw [q1])
              intro v2 w2 hown2 hk2
              go_wp2
              go_roundw
              case rel =>
                refine ⟨k + 1, none, pre ++ [y], N + 1, d, by go_num, by omega, rfl, rfl, by omega, by omega, ⟨(fun _ => by omega), (fun x hx => by cases hx)⟩, by simp; omega, ?_, hown2, hb.trans hk2.below⟩
                have h1 := HR.out
                rw [HS.out, if_neg (by rw [B0.out]; simp), if_neg (by rw [B1.out]; simp), if_neg (by have := HD.out; omega)] at h1
                simp only [HQ.out, HY.out] at h1
                exact h1
              case measure => simp [intOf]; omega
    · have hke : k = s.size := by omega
      go_wp2
      go_ret3
      refine ⟨?_, hb⟩
      have h1 := HR.out
      rw [hke, hexTk_end] at h1
      rw [← h1]; rfl
end Go.Proofs.YtfkjoppehbmomaaGreatDoor

/-
  Reading, the document's answer: names.
-/
namespace Go.Proofs.YtfkjoppehbmomaaGreatDoor
open Go.RowKit
set_option maxRecDepth 100000

theorem rSkipN (s : ByteArray) (k : Nat) (w : World) (hk : k ≤ s.size) (hs : s.size ≤ 100000) :
    Calls Tryz.prog 12 #[.string s, .int .i64 k] w fun e w' => e = .returned (.int .i64 (skipP s k : Nat)) ∧ w' = w := by
  have q := rSkip s k w (by unfold maxLen; omega)
  rw [place_in hk] at q; exact q
theorem rWordN (s : ByteArray) (k : Nat) (w : World) (hk : k ≤ s.size) (hs : s.size ≤ 100000) :
    Calls Tryz.prog 14 #[.string s, .int .i64 k] w fun e w' => e = .returned (.string (wordP s k)) ∧ w' = w := by
  have q := rWord s k w (by unfold maxLen; omega)
  rw [place_in hk] at q; exact q
/-- A name that is read: the bytes, where it ends, an error. -/
def rName (s : ByteArray) (k : Nat) : ByteArray × Nat × Int := match nameR (wordP s (k + 1)).data.toList with
  | none => (eB, 0, 4)
  | some b => (⟨b.toArray⟩, k + 1 + (wordP s (k + 1)).size, 0)
set_option maxHeartbeats 2000000 in
theorem rReadName (s : ByteArray) (k : Nat) (w : World) (hk : k < s.size) (hs : s.size ≤ 100000) :
    Calls Tryz.prog 46 #[.string s, .int .i64 k] w fun e w' => e = .returned (.tuple #[.string (rName s k).1, .int .i64 ((rName s k).2.1 : Nat), .int .i64 (rName s k).2.2]) ∧ Below w.heap.size w w' := by
  have hz := (wordP_size (s := s) (k := k + 1) (by omega)).2
  have HW := hid (fun (w : World) => show Calls Tryz.prog 14 #[.string s, .int .i64 ((k : Int) + 1)] w _ from rWordN s (k + 1) w (by omega) hs)
  unfold rName
  generalize wordP s (k + 1) = ww at *
  obtain ⟨T, hT⟩ : ∃ T : ByteArray × Nat × Int, (match nameR ww.data.toList with | none => (eB, 0, 4) | some b => (⟨b.toArray⟩, k + 1 + ww.size, 0)) = T := ⟨_, rfl⟩
  rw [hT]
  have HT := hid hT
  clear hT
  obtain ⟨R, hR⟩ : ∃ R, nameL ww.data.toList = R := ⟨_, rfl⟩
  have HR := hid hR
  clear hR
  go_enter Tryz.func46, Tryz.ntmps46
  go_wp2_with (go_at_call 14; go_must (refine (HW.out _).mono ?_); rintro e w1 ⟨rfl, rfl⟩)
  clear HW
  go_loopw [9, 10] (fun bv iv wr => ∃ (i : Nat) (pre : List UInt8), iv = .int .i64 i ∧ i ≤ ww.size ∧ pre.length ≤ i ∧ Hid ((nameL (ww.data.toList.drop i)).map (pre ++ ·) = R) ∧ Own8 wr w1.heap.size bv pre ∧ Below w1.heap.size w1 wr) (fun _ iv _ => ww.size - (intOf iv).toNat)
  case atStart => exact ⟨0, [], rfl, by omega, by simp, hid (by simpa using HR.out), Own8.nil _ _, Below.refl _ _⟩
  case round =>
    obtain ⟨i, pre, rfl, hi, hpl, HN, hown, hb⟩ := hrel
    have hbs := hb.size
    by_cases hlt : i < ww.size
    · have hlt' : (i : Int) < ww.size := by omega
      have hc := ww[i].toNat_lt
      have HD := hid (drop_at ww i hlt)
      by_cases h35 : ww[i] = 35
      · have q35 : (ww[i].toNat : Int) = 35 := by rw [h35]; rfl
        have H35 := hid h35
        clear h35
        by_cases h2 : i + 2 < ww.size
        · have h2' : ¬ (ww.size : Int) ≤ (i : Int) + 2 := by omega
          have h1' : (i : Int) + 1 < ww.size := by omega
          have h2'' : (i : Int) + 2 < ww.size := by omega
          have HD1 := hid (drop_at ww (i + 1) (by omega))
          have HD2 := hid (drop_at ww (i + 2) h2)
          have hx := ww[i + 1].toNat_lt
          have hy := ww[i + 2].toNat_lt
          have HE := hid (show (nameL (ww.data.toList.drop i)) = if hexV ww[i + 1] < 0 ∨ hexV ww[i + 2] < 0 then none else (nameL (ww.data.toList.drop (i + 3))).map (UInt8.ofNat (16 * (hexV ww[i + 1]).toNat + (hexV ww[i + 2]).toNat) :: ·) by
            rw [HD.out, HD1.out, HD2.out, H35.out, nameL_pair])
          by_cases hbad : hexV ww[i + 1] < 0 ∨ hexV ww[i + 2] < 0
          · have HTE := hid (show (eB, 0, 4) = T by rw [← HT.out, nameR_none (by rw [HR.out, ← HN.out, HE.out, if_pos hbad]; rfl)])
            have hb2 : hexV ww[i + 1] < 0 ∨ (¬ hexV ww[i + 1] < 0 ∧ hexV ww[i + 2] < 0) := by omega
            clear hbad
            rcases hb2 with h5 | ⟨h5, h6⟩
            all_goals
              go_wp2_with (go_at_call 16; refine (rHex _ _).mono ?_; rintro e w2 ⟨rfl, rfl⟩)
              go_ret3
              refine ⟨?_, hb⟩
              rw [← HTE.out]; rfl
          · have hvx := hexV_rng ww[i + 1]
            have hvy := hexV_rng ww[i + 2]
            obtain ⟨a, ha⟩ : ∃ a : Nat, hexV ww[i + 1] = a := ⟨(hexV ww[i + 1]).toNat, by omega⟩
            obtain ⟨c, hc⟩ : ∃ c : Nat, hexV ww[i + 2] = c := ⟨(hexV ww[i + 2]).toNat, by omega⟩
            have ha16 : a < 16 := by omega
            have hc16 : c < 16 := by omega
            obtain ⟨y, q1, hy⟩ : ∃ y : UInt8, (y.toNat : Int) = 16 * (a : Int) + c ∧ UInt8.ofNat (16 * a + c) = y := ⟨UInt8.ofNat (16 * a + c), by simp only [UInt8.toNat_ofNat']; omega, rfl⟩
            have HNX := hid (show (nameL (ww.data.toList.drop (i + 3))).map ((pre ++ [y]) ++ ·) = R by
              rw [← HN.out, HE.out, if_neg hbad, ha, hc, Int.toNat_natCast, Int.toNat_natCast, hy, map_pre])
            clear hy hbad HE HN hvx hvy
            go_wp2_with (first
              | (go_at_call 16; refine (rHex _ _).mono ?_; rintro e w2 ⟨rfl, rfl⟩)
              | (at_builtin; refine wpApp8 rfl (.tmp 54) (.tmp 60) rfl w1.heap.size _ pre rfl hown _ [y] 1 1 rfl rfl ?cc (by omega) hbs ?_))
            case cc => first | exact one8 q1 | (unfold byteV; rw [q1])
            intro v2 w2 hown2 hk2
            go_wp2
            go_roundw
            case rel => exact ⟨i + 3, pre ++ [y], by go_num, by omega, by simp; omega, hid HNX.out, hown2, hb.trans hk2.below⟩
            case measure => simp [intOf]; omega
        · have h2' : (ww.size : Int) ≤ (i : Int) + 2 := by omega
          have HTE := hid (show (eB, 0, 4) = T by
            rw [← HT.out, nameR_none (by
              rw [HR.out, ← HN.out, HD.out, H35.out]
              by_cases h1 : i + 1 < ww.size
              · rw [drop_at ww (i + 1) h1, List.drop_eq_nil_of_le (by simp; omega), nameL_short2]; rfl
              · rw [List.drop_eq_nil_of_le (by simp; omega), nameL_short1]; rfl)])
          go_wp2
          go_ret3
          refine ⟨?_, hb⟩
          rw [← HTE.out]; rfl
      · have q35 : ((ww[i].toNat : Int) == 35) = false := ne_u8 (k := 35) (by omega) h35
        have HNX := hid (show (nameL (ww.data.toList.drop (i + 1))).map ((pre ++ [ww[i]]) ++ ·) = R by
          rw [← HN.out, HD.out, nameL_plain (by simpa using h35), map_pre])
        clear h35 HN HD
        go_wp2_with (at_builtin; refine wpApp8 rfl (.tmp 64) (.tmp 68) rfl w1.heap.size _ pre rfl hown _ [ww[i]] 1 1 rfl rfl ?cc (by omega) hbs ?_)
        case cc => first | exact one8 rfl | rfl
        intro v2 w2 hown2 hk2
        go_wp2
        go_roundw
        case rel => exact ⟨i + 1, pre ++ [ww[i]], by go_num, by omega, by simp; omega, hid HNX.out, hown2, hb.trans hk2.below⟩
        case measure => simp [intOf]; omega
    · have hie : i = ww.size := by omega
      have hlt' : ¬ (i : Int) < ww.size := by omega
      have hnl : nameL ww.data.toList = some pre := by
        rw [HR.out, ← HN.out, List.drop_eq_nil_of_le (by simp; omega), nameL_nil]; simp
      have hcv := own8_conv hown
      have hnm := fun (w : World) => rNameMay (⟨pre.toArray⟩ : ByteArray) w (by unfold maxLen; show pre.toArray.size ≤ _; simp; omega)
      cases hm : nmOk (⟨pre.toArray⟩ : ByteArray)
      · have HTE := hid (show (eB, 0, 4) = T by
          rw [← HT.out, show nameR ww.data.toList = none by unfold nameR; rw [hnl]; simp [hm]])
        rw [hm] at hnm
        clear hm hnl HN
        go_wp2_with (go_at_call 85; refine (hnm _).mono ?_; rintro e w2 ⟨rfl, rfl⟩)
        go_ret3
        refine ⟨?_, hb⟩
        rw [← HTE.out]; rfl
      · have HTE := hid (show (⟨pre.toArray⟩, k + 1 + ww.size, 0) = T by
          rw [← HT.out, show nameR ww.data.toList = some pre by unfold nameR; rw [hnl]; simp [hm]])
        rw [hm] at hnm
        clear hm hnl HN
        go_wp2_with (go_at_call 85; refine (hnm _).mono ?_; rintro e w2 ⟨rfl, rfl⟩)
        go_ret3
        refine ⟨?_, hb⟩
        rw [← HTE.out]
        simp
end Go.Proofs.YtfkjoppehbmomaaGreatDoor
