/-
  Joined: Vt, Vu, Vw.
-/
import Derived.Test.YtflcibmjblioaaaGreatDoorVr
import Derived.Test.YtflcibmjblioaaaGreatDoorPk
import Derived.Lib.AppendIntMem
import Derived.Deep.CutRange
import Derived.Deep.CutBlock
import Derived.Deep.RegionHeld3
import Derived.Test.YtflcibmjblioaaaGreatDoorVl

/-
  The program's own text of a value: lists.
-/
namespace Go.Proofs.YtflcibmjblioaaaGreatDoor
open Go.RowKit
set_option maxRecDepth 100000

theorem bulkL_take : ∀ (l : List V) (j : Nat) (x : V), l[j]? = some x → bulkL (l.take j) + x.bulk ≤ bulkL l
  | [], j, x, h => by simp at h
  | y :: l, 0, x, h => by simp at h; subst h; simp [bulkL]
  | y :: l, j + 1, x, h => by
    have := bulkL_take l j x (by simpa using h)
    rw [List.take_succ_cons, bulkL, bulkL]; omega
theorem bulkF_take : ∀ (l : List (ByteArray × V)) (j : Nat) (q : ByteArray × V), l[j]? = some q → bulkF (l.take j) + (1 + q.1.size + q.2.bulk) ≤ bulkF l
  | [], j, x, h => by simp at h
  | y :: l, 0, x, h => by
    have e : bulkF (List.take 0 (y :: l)) = 0 := by simp [bulkF]
    simp at h; subst h; rw [e, bulkF_cons]; omega
  | y :: l, j + 1, x, h => by
    have := bulkF_take l j x (by simpa using h)
    rw [List.take_succ_cons, bulkF_cons, bulkF_cons]; omega
theorem tabB {m : Int} {w0 w : World} {B : Nat} (hr : Rdy m w0) (hb : Below w0.heap.size w0 w) (hB : w0.heap.size ≤ B) : Lib.TabBelow Tryz.prog B w "internal/strconv.uint64pow10" .u64 Lib.pow10Tab :=
  fun _ h => (hr.below (hb.trans (h.mono hB))).1

set_option maxHeartbeats 400000 in
theorem appendBool1 (b : Bool) (B : Nat) (sv : Value) (xs : List UInt8) (w : World) (hown : Own8 w B sv xs) (hB : B ≤ w.heap.size) (hlim : xs.length ≤ 100000000) :
    Calls Tryz.prog 159 #[sv, .bool b] w fun e w' => ∃ v', e = .returned v' ∧ Own8 w' B v' (xs ++ (if b then [116, 114, 117, 101] else [102, 97, 108, 115, 101])) ∧ Kept8 B w w' := by
  cases b
  · go_enter Tryz.func159, Tryz.ntmps159
    go_wp2_with (at_builtin; refine wpApp8s rfl (.tmp 8) _ rfl B _ xs rfl hown _ rfl [102, 97, 108, 115, 101] rfl (by simp [ByteArray.size]; omega) hB ?_)
    intro v1 w1 hown1 hk1
    go_wp2
    go_ret
    exact ⟨_, rfl, hown1, hk1⟩
  · go_enter Tryz.func159, Tryz.ntmps159
    go_wp2_with (at_builtin; refine wpApp8s rfl (.tmp 6) _ rfl B _ xs rfl hown _ rfl [116, 114, 117, 101] rfl (by simp [ByteArray.size]; omega) hB ?_)
    intro v1 w1 hown1 hk1
    go_wp2
    go_ret
    exact ⟨_, rfl, hown1, hk1⟩
set_option maxHeartbeats 400000 in
theorem appendBool (b : Bool) (B : Nat) (sv : Value) (xs : List UInt8) (w : World) (hown : Own8 w B sv xs) (hB : B ≤ w.heap.size) (hlim : xs.length ≤ 100000000) :
    Calls Tryz.prog 104 #[sv, .bool b] w fun e w' => ∃ v', e = .returned v' ∧ Own8 w' B v' (xs ++ (if b then [116, 114, 117, 101] else [102, 97, 108, 115, 101])) ∧ Kept8 B w w' := by
  have H := hid (appendBool1 b B sv xs w hown hB hlim)
  cases b
  all_goals
    go_enter Tryz.func104, Tryz.ntmps104
    go_wp2_with (go_at_call 159; refine H.out.mono ?_; rintro e w1 ⟨v1, rfl, h1, h2⟩)
    go_ret
    exact ⟨_, rfl, h1, h2⟩

/-- A value's text, behind what was there. -/
def TextOk (w0 : World) (d : Nat) : Prop :=
  ∀ (v : V) (cs : List Value) (w : World) (B : Nat) (sv : Value) (xs : List UInt8), RepN d w0 v cs → v.Shp → Below w0.heap.size w0 w → w0.heap.size ≤ B → B ≤ w.heap.size → Own8 w B sv xs → xs.length + 50 * v.bulk ≤ 100000000 →
    Calls Tryz.prog 64 #[sv, .agg cs.toArray] w fun e w' => ∃ v', e = .returned v' ∧ Own8 w' B v' (xs ++ v.txt) ∧ Kept8 B w w'

set_option maxHeartbeats 1000000 in
theorem addList_says {w0 : World} {d : Nat} (ih : TextOk w0 d) (l : List V) (al : Option Addr) (cl : Nat) (w : World) (B : Nat) (sv : Value) (xs : List UInt8) (hl : l.length ≤ maxLen)
    (hL : ∀ (i : Nat) (x : V), l[i]? = some x → ∃ b off c, al = some ⟨b, off, none⟩ ∧ b < w0.heap.size ∧ CellsAt w0 b (off + i * 5) c ∧ RepN d w0 x c) (hSH : ∀ (i : Nat) (x : V), l[i]? = some x → x.Shp)
    (hb0 : Below w0.heap.size w0 w) (hB0 : w0.heap.size ≤ B) (hB : B ≤ w.heap.size) (hown : Own8 w B sv xs) (hlim : xs.length + 50 * bulkL l + 50 ≤ 100000000) :
    Calls Tryz.prog 108 #[sv, .slice al l.length cl] w fun e w' => ∃ v', e = .returned v' ∧ Own8 w' B v' (xs ++ (91 :: (sepsL l).drop 1 ++ [93])) ∧ Kept8 B w w' := by
  unfold maxLen at hl
  have HL := hid hL
  have HSH := hid hSH
  have HB0 := hid hb0
  clear hL hSH hb0
  go_enter Tryz.func108, Tryz.ntmps108
  go_wp2_with (at_builtin; refine wpApp8 rfl (.tmp 7) (.tmp 8) rfl B _ xs rfl hown _ [91] 1 1 rfl rfl rfl (by omega) hB ?_)
  intro v1 w1 hown1 hk1
  go_wp2_with fail
  go_loopw [0, 12] (fun t i wr => ∃ j : Nat, i = .int .i64 j ∧ j ≤ l.length ∧ Own8 wr B t (xs ++ 91 :: (sepsL (l.take j)).drop 1) ∧ Kept8 B w wr) (fun _ i _ => l.length - (intOf i).toNat)
  case atStart => exact ⟨0, rfl, Nat.zero_le _, by simpa [sepsL] using hown1, hk1⟩
  case round =>
    clear hown1 hk1 hown
    obtain ⟨j, rfl, hj, hown, hb⟩ := hrel
    have hbs := hb.size
    have hpl : ((sepsL (l.take j)).drop 1).length ≤ 50 * bulkL (l.take j) := by
      have := sepsL_len (l.take j) (fun x _ => txt_len x)
      simp; omega
    have DS := hid (fun (x : V) (h : l[j]? = some x) => drop_seps h)
    have HP0 := hid (fun (h : j = 0) => show (sepsL (l.take j)).drop 1 = [] by rw [h]; simp [sepsL])
    have HP5 := hid (fun (h : l.take j = l) => show (sepsL (l.take j)).drop 1 = (sepsL l).drop 1 by rw [h])
    by_cases hjl : j < l.length
    · have hjl' : (j : Int) < l.length := by omega
      have hbt := bulkL_take l j l[j] (List.getElem?_eq_getElem hjl)
      have hr0 := HB0.out.trans (hb.below.mono hB0)
      obtain ⟨b, off, c, rfl, hbl, hc, hr⟩ := HL.out j l[j] (List.getElem?_eq_getElem hjl)
      obtain ⟨k1, n1, s1, a1, l1, c1, a2, l2, c2, rfl, g0, g1, g2, g3, g4⟩ := rep_cells (hr.later hr0) (hc.later hbl hr0)
      have hbr : b < wr.heap.size := Nat.lt_of_lt_of_le hbl hr0.size
      have HR := hid hr
      have HR0 := hid hr0
      have HX := hid (HSH.out j l[j] (List.getElem?_eq_getElem hjl))
      have HDS := hid (DS.out l[j] (List.getElem?_eq_getElem hjl))
      clear hr hc DS HP5 hr0
      generalize hpre : (sepsL (l.take j)).drop 1 = pre at *
      clear hpre
      by_cases hj0 : j = 0
      · have hj0' : ¬ (0 : Int) < j := by omega
        have hp0 := hid hj0
        have hpn := HP0.out hj0
        clear hj0
        go_wp2_with (go_at_call 64; refine (ih l[j] _ _ B _ _ HR.out HX.out (HR0.out.trans ((Below.refl _ _).alloc HR0.out.size _)) hB0 (by simp; omega) (hown.alloc _) (by simp; omega)).mono ?_; rintro e w2 ⟨v2, rfl, hown2, hk2⟩)
        go_roundw
        case rel =>
          refine ⟨j + 1, by go_num, by omega, ?_, hb.trans (((Kept8.refl _ _).alloc (by omega) _).trans hk2)⟩
          rw [HDS.out, if_pos hp0.out]
          rw [hpn] at hown2
          simpa using hown2
        case measure => simp [intOf]; omega
      · have hj0' : (0 : Int) < j := by omega
        go_wp2_with (at_builtin; refine wpApp8g rfl (.tmp 19) (.tmp 20) rfl B _ _ rfl ((hown.alloc _).alloc _) (wr.heap.size + 1) [32] 1 1 rfl (0, 0) rfl _ rfl (alloc2_new _ _ _) (by simp; omega) (by simp; omega) ?_)
        intro v2 w2 hown2 hk2
        replace hk2 := hk2.unalloc.kept (hown.alloc _) (by simp; omega)
        have hA := hk2.at (by decide) (At.new wr _ _ rfl)
        have mc := hA.cell
        have mz := hA.lt
        have HA2 := hid (hb.trans (((Kept8.refl _ _).alloc (by omega) _).trans hk2))
        clear hk2
        go_wp2_with (go_at_call 64; refine (ih l[j] _ _ B _ _ HR.out HX.out (HB0.out.trans (HA2.out.below.mono hB0)) hB0 (by have := HA2.out.size; omega) hown2 (by simp; omega)).mono ?_; rintro e w3 ⟨v3, rfl, hown3, hk3⟩)
        go_roundw
        case rel =>
          refine ⟨j + 1, by go_num, by omega, ?_, HA2.out.trans hk3⟩
          rw [HDS.out, if_neg hj0]
          simpa using hown3
        case measure => simp [intOf]; omega
    · have hjl' : ¬ (j : Int) < l.length := by omega
      have hpe := HP5.out (by rw [List.take_of_length_le (by omega)])
      have hbt : bulkL (l.take j) = bulkL l := by rw [List.take_of_length_le (by omega)]
      go_wp2_with (at_builtin; refine wpApp8 rfl (.tmp 26) (.tmp 27) rfl B _ _ rfl hown _ [93] 1 1 rfl rfl rfl (by simp at *; omega) (by omega) ?_)
      intro v2 w2 hown2 hk2
      go_wp2
      go_ret
      refine ⟨_, rfl, ?_, hb.trans hk2⟩
      simpa using hown2
end Go.Proofs.YtflcibmjblioaaaGreatDoor

/-
  The program's own text of a value: dictionaries.
-/
namespace Go.Proofs.YtflcibmjblioaaaGreatDoor
open Go.RowKit
set_option maxRecDepth 100000
attribute [local go_sem ↓] Go.wp_at_zero Go.wp_at_succ

set_option maxHeartbeats 2000000 in
theorem addDict_says {w0 : World} {d : Nat} (ih : TextOk w0 d) (l : List (ByteArray × V)) (al : Option Addr) (cl : Nat) (w : World) (B : Nat) (sv : Value) (xs : List UInt8) (hl : l.length ≤ maxLen)
    (hL : ∀ (i : Nat) (q : ByteArray × V), l[i]? = some q → ∃ b off c, al = some ⟨b, off, none⟩ ∧ b < w0.heap.size ∧ q.1.size ≤ maxLen ∧ w0.cell? ⟨b, off + i * 6, none⟩ = some (.string q.1) ∧ CellsAt w0 b (off + i * 6 + 1) c ∧ RepN d w0 q.2 c) (hSH : ∀ (i : Nat) (q : ByteArray × V), l[i]? = some q → q.1.size ≤ 100000 ∧ q.2.Shp)
    (hb0 : Below w0.heap.size w0 w) (hB0 : w0.heap.size ≤ B) (hB : B ≤ w.heap.size) (hown : Own8 w B sv xs) (hlim : xs.length + 50 * bulkF l + 50 ≤ 100000000) :
    Calls Tryz.prog 109 #[sv, .slice al l.length cl] w fun e w' => ∃ v', e = .returned v' ∧ Own8 w' B v' (xs ++ (60 :: 60 :: sepsF l ++ [32, 62, 62])) ∧ Kept8 B w w' := by
  unfold maxLen at hl
  have HL := hid hL
  have HSH := hid hSH
  have HB0 := hid hb0
  clear hL hSH hb0
  go_enter Tryz.func109, Tryz.ntmps109
  go_wp2_with (at_builtin; refine wpApp8s rfl (.tmp 7) _ rfl B _ xs rfl hown _ rfl [60, 60] rfl (by simp [ByteArray.size]; omega) hB ?_)
  intro v1 w1 hown1 hk1
  go_wp2_with fail
  go_loopw [0, 11] (fun t i wr => ∃ j : Nat, i = .int .i64 j ∧ j ≤ l.length ∧ Own8 wr B t (xs ++ 60 :: 60 :: sepsF (l.take j)) ∧ Kept8 B w wr) (fun _ i _ => l.length - (intOf i).toNat)
  case atStart => exact ⟨0, rfl, Nat.zero_le _, by simpa [sepsF] using hown1, hk1⟩
  case round =>
    clear hown1 hk1 hown
    obtain ⟨j, rfl, hj, hown, hb⟩ := hrel
    have hbs := hb.size
    have hpl : (sepsF (l.take j)).length ≤ 50 * bulkF (l.take j) := sepsF_len (l.take j) (fun x _ => txt_len x.2)
    have DS := hid (fun (q : ByteArray × V) (h : l[j]? = some q) => sepsF_take l j q h)
    have HP5 := hid (fun (h : l.take j = l) => show sepsF (l.take j) = sepsF l by rw [h])
    by_cases hjl : j < l.length
    · have hjl' : (j : Int) < l.length := by omega
      have hbt := bulkF_take l j l[j] (List.getElem?_eq_getElem hjl)
      have hr0 := HB0.out.trans (hb.below.mono hB0)
      obtain ⟨b, off, c, rfl, hbl, hnl, hcn, hc, hr⟩ := HL.out j l[j] (List.getElem?_eq_getElem hjl)
      obtain ⟨k1, n1, s1, a1, l1, c1, a2, l2, c2, rfl, g0, g1, g2, g3, g4⟩ := rep_cells (hr.later hr0) (hc.later hbl hr0)
      have gn := (hr0.cell (p := ⟨b, off + j * 6, none⟩) hbl).trans hcn
      have hbr : b < wr.heap.size := Nat.lt_of_lt_of_le hbl hr0.size
      have HR := hid hr
      have HR0 := hid hr0
      have HX := hid (HSH.out j l[j] (List.getElem?_eq_getElem hjl))
      have HDS := hid (DS.out l[j] (List.getElem?_eq_getElem hjl))
      have hnt := nameT_len l[j].1
      clear hr hc DS HP5 hr0 hcn hnl
      rw [fieldT_eq] at HDS
      generalize hpre : sepsF (l.take j) = pre at *
      clear hpre
      generalize hnx : nameT l[j].1.data.toList = nt at *
      have HNT := hid hnx
      clear hnx
      go_upto_region 5 with fail
      have hownq := hown.alloc (.cells #[.string l[j].1, .int .i64 k1, .int .i64 n1, .string s1, .slice a1 l1 c1, .slice a2 l2 c2] 74)
      have hAq := At.new wr #[.string l[j].1, .int .i64 k1, .int .i64 n1, .string s1, .slice a1 l1 c1, .slice a2 l2 c2] 74 rfl
      have HKq := hid (hb.alloc (by omega) (.cells #[.string l[j].1, .int .i64 k1, .int .i64 n1, .string s1, .slice a1 l1 c1, .slice a2 l2 c2] 74))
      generalize wr.alloc (.cells #[.string l[j].1, .int .i64 k1, .int .i64 n1, .string s1, .slice a1 l1 c1, .slice a2 l2 c2] 74) = wq at *
      generalize wr.heap.size = bq at *
      have mcq := hAq.cell 0
      have mzq := hAq.lt
      have hBq : B ≤ wq.heap.size := by have := HKq.out.size; omega
      simp at mcq
      clear hown hb
      go_cut [0] from 15 to 22 (fun t wx => Own8 wx B t (xs ++ 60 :: 60 :: (pre ++ 32 :: (nt ++ [32]))) ∧ Kept8 B wq wx)
      case first =>
        go_region_held3 (fun w' => w'.cell? ⟨bq, 0, none⟩ = some (.string l[j].1)) (first | go_keep | assumption)
          (first
            | (refine stepApp8g (by rfl) (.tmp 15) (.tmp 16) (by rfl) B _ (xs ++ 60 :: 60 :: pre) (by rfl) (by first | exact hownq.alloc _ | exact (hownq.alloc _).alloc _) _ [32] 1 1 (by rfl) (0, 0) (by rfl) _ (by rfl) (by first | exact heap_alloc_new _ _ | exact alloc2_new _ _ _ | exact alloc2_old _ _ _) (by simp; omega) (by simp; omega) ?_; intro v2 w2 hown2 hg2; have hk2 := hg2.kept (B := B) (by first | exact hownq.alloc _ | exact (hownq.alloc _).alloc _) (by simp; omega); have hA2 := Kept8.at (t := 74) (b := bq) hk2 (by decide) (by first | exact hAq.alloc _ | exact (hAq.alloc _).alloc _); have mc2 := hA2.cell 0; have mz2 := hA2.lt; have hs2 := hg2.size; have HG2 := hid hg2; have HK2 := hid (Kept8.trans (by first | exact ((Kept8.refl B wq).alloc hBq _).drew | exact (((Kept8.refl B wq).alloc hBq _).alloc (by simp; omega) _).drew) hk2); clear hg2 hk2 hA2; simp at mc2 hs2)
            | (refine stepApp8g (by rfl) (.tmp 20) (.tmp 21) (by rfl) B _ (xs ++ 60 :: 60 :: pre ++ [32] ++ nt) (by rfl) (by first | exact hown3 | exact hown3.alloc _) _ [32] 1 1 (by rfl) (0, 0) (by rfl) _ (by rfl) (by first | exact heap_alloc_new _ _ | exact (HG3.out.row (by exact heap_alloc_new _ _) (by exact hown2.apart (Nat.le_refl _))).1 | exact (HG3.out.row (HG2.out.row (by exact alloc2_new _ _ _) (by exact hownq.apart (by omega))).1 (HG2.out.row (by exact alloc2_new _ _ _) (by exact hownq.apart (by omega))).2).1 | exact (HG3.out.row (HG2.out.row (by exact alloc2_old _ _ _) (by exact hownq.apart (Nat.le_refl _))).1 (HG2.out.row (by exact alloc2_old _ _ _) (by exact hownq.apart (Nat.le_refl _))).2).1) (by simp; omega) (by first | (simp; omega) | omega) ?_; intro v4 w4 hown4 hg4; have HK4 := hid (hg4.kept (B := B) (by first | exact hown3 | exact hown3.alloc _) (by first | (simp; omega) | omega)); clear hg4; have mc4 : w4.cell? ⟨bq, 0, none⟩ = some (.string l[j].1) := (Kept8.at (t := 74) (b := bq) HK4.out (by decide) (by first | exact HA3.out | exact HA3.out.alloc _)).cell 0)
            | (go_at_call 107; refine (addName_says l[j].1 B _ (xs ++ 60 :: 60 :: pre ++ [32]) _ HX.out.1 (by first | exact hown2 | exact hown2.alloc _) (by first | omega | (simp; omega)) (by simp; omega)).mono ?_; rw [HNT.out]; rintro e w3 ⟨v3, rfl, hown3, hg3⟩; have hs3 := hg3.size; have HG3 := hid hg3; have HK3 := hid (hg3.kept (B := B) (by first | exact hown2 | exact hown2.alloc _) (by first | omega | (simp; omega))); have HA3 := hid (Kept8.at (t := 74) (b := bq) HK3.out (by decide) (by first | exact Kept8.at (t := 74) (b := bq) HK2.out (by decide) hAq | exact (Kept8.at (t := 74) (b := bq) HK2.out (by decide) hAq).alloc _)); have mc3 := HA3.out.cell 0; have mz3 := HA3.out.lt; simp at mc3 hs3; clear hg3))
        all_goals go_wp2_with fail
        all_goals go_meet
        all_goals refine ⟨by simpa using hown4, ?_⟩
        all_goals first
          | exact (HK2.out.trans HK3.out).trans HK4.out
          | exact ((HK2.out.drew).trans HK3.out).trans HK4.out
          | exact ((HK2.out.alloc (by omega) _).trans HK3.out).trans HK4.out
          | exact ((HK2.out.alloc (by omega) _).drew.trans HK3.out).trans HK4.out
          | exact ((HK2.out.trans HK3.out).alloc (by omega) _).trans HK4.out
          | exact ((HK2.out.drew.trans HK3.out).alloc (by omega) _).trans HK4.out
          | exact ((HK2.out.trans HK3.out).alloc (by omega) _).drew.trans HK4.out
          | exact ((HK2.out.drew.trans HK3.out).alloc (by omega) _).drew.trans HK4.out
      case rest =>
        obtain ⟨hown5, hk5⟩ := hcut
        have hA5 := Kept8.at (t := 74) (b := bq) hk5 (by decide) hAq
        have mc5 := hA5.cell
        have mz5 := hA5.lt
        have HK5 := hid (HKq.out.trans hk5)
        have hs5 : B ≤ wc.heap.size := by have := HK5.out.size; omega
        clear hk5 hownq mcq mzq hAq
        go_wp2_with (go_at_call 64; refine (ih l[j].2 _ _ B _ _ HR.out HX.out.2 (HB0.out.trans (HK5.out.below.mono hB0)) hB0 hs5 hown5 (by simp; omega)).mono ?_; rintro e w6 ⟨v6, rfl, hown6, hk6⟩)
        go_roundw
        case rel =>
          refine ⟨j + 1, by go_num, by omega, ?_, HK5.out.trans hk6⟩
          rw [HDS.out]
          simpa using hown6
        case measure => simp [intOf]; omega
    · have hjl' : ¬ (j : Int) < l.length := by omega
      have hbt : bulkF (l.take j) = bulkF l := by rw [List.take_of_length_le (by omega)]
      have HPE := hid (HP5.out (by rw [List.take_of_length_le (by omega)]))
      go_wp2_with (at_builtin; refine wpApp8s rfl (.tmp 28) _ rfl B _ _ rfl hown _ rfl [32, 62, 62] rfl (by simp only [List.length_append, List.length_cons, hbt] at *; simp [ByteArray.size]; omega) (by omega) ?_)
      intro v2 w2 hown2 hk2
      go_wp2
      go_ret
      refine ⟨_, rfl, ?_, hb.trans hk2⟩
      have := HPE.out
      simpa [this] using hown2
end Go.Proofs.YtflcibmjblioaaaGreatDoor

/-
  The program's own text of a value: all of it.
-/
namespace Go.Proofs.YtflcibmjblioaaaGreatDoor
open Go.RowKit
set_option maxRecDepth 100000

theorem appendInt_says {m : Int} {w0 : World} (hr : Rdy m w0) (n : Nat) (hn : n < 100) (B : Nat) (sv : Value) (xs : List UInt8) (w : World) (hb0 : Below w0.heap.size w0 w) (hB0 : w0.heap.size ≤ B) (hB : B ≤ w.heap.size) (hown : Own8 w B sv xs) (hlim : xs.length ≤ 100000000) :
    Calls Tryz.prog 110 #[sv, .int .i64 n, .int .i64 10] w fun e w' => ∃ v', e = .returned v' ∧ Own8 w' B v' (xs ++ Lib.decDigits n) ∧ Kept8 B w w' := by
  refine (Tryz.strconv_AppendInt_10 B xs.length n (by omega) (by omega) sv (xs.map byteV) w hown hB (by omega) (tabB hr hb0 hB0)).mono ?_
  rintro e w' ⟨v', rfl, h1, h2, h3⟩
  refine ⟨v', rfl, ?_, h2, h3⟩
  rw [Lib.itoa_nonneg] at h1
  unfold Own8
  rw [List.length_append, List.map_append]
  exact h1

set_option maxHeartbeats 1000000 in
theorem addText_step {m : Int} {w0 : World} {d : Nat} (hr : Rdy m w0) (ih : TextOk w0 d) : TextOk w0 (d + 1) := by
  intro v cs w B sv xs hv hsh hb0 hB0 hB hown hlim
  obtain ⟨al, af, cl, cf, rfl, ⟨hs, hl, hf⟩, hL, hF⟩ := hv
  have ho := (shp_eq v).1 hsh
  have hbe := bulk_eq' v
  have HTX := hid (txt_eq v)
  have hs200 := own_s ho.1
  have HO := hid ho
  have HL := hid hL
  have HF := hid hF
  have HSH := hid (And.intro ((shpL_iff v.l).1 ho.2.1) ((shpF_iff v.f).1 ho.2.2))
  have HB0 := hid hb0
  clear hL hF hsh ho hb0
  have k1 : ∀ o, Kept8 B w (w.alloc o) := fun o => (Kept8.refl B w).alloc hB o
  have HK1 := hid k1
  clear k1
  have HBA := hid (fun o => HB0.out.trans (((Below.refl _ _).alloc (Nat.le_refl _) o).mono HB0.out.size))
  by_cases hk0 : v.k = 0
  · go_enter Tryz.func64, Tryz.ntmps64
    go_wp2_with (at_builtin; refine wpApp8s rfl (.tmp 11) _ rfl B _ xs rfl (hown.alloc _) _ rfl [110, 117, 108, 108] rfl (by simp [ByteArray.size]; omega) (by simp; omega) ?_)
    intro v1 w1 hown1 hk1
    go_wp2
    go_ret
    exact ⟨_, rfl, by rw [HTX.out]; simpa [hk0] using hown1, (HK1.out _).trans hk1⟩
  by_cases hk1 : v.k = 1
  · go_enter Tryz.func64, Tryz.ntmps64
    by_cases hn1 : v.n = 1
    all_goals
      go_wp2_with (go_at_call 104; refine (appendBool _ B _ xs _ (hown.alloc _) (by simp; omega) (by omega)).mono ?_; rintro e w1 ⟨v1, rfl, hown1, hkk⟩)
      go_ret
      exact ⟨_, rfl, by rw [HTX.out]; simpa [hk1, hn1] using hown1, (HK1.out _).trans hkk⟩
  by_cases hk2 : v.k = 2
  · have hok : okF v.n = true := ((own2 hk2).1 HO.out.1).1
    have hfl := flt_ok hok
    have HOK := hid hok
    have htl := txtB_len v.n
    clear hok
    go_enter Tryz.func64, Tryz.ntmps64
    go_wp2_with (first
      | (go_at_call 105; refine (text_any m v.n _ (hr.below (HBA.out _))).mono ?_; rw [hfl, errN_0]; rintro e w1 ⟨rfl, hbx, _⟩; have hown1 := (hown.alloc _).later hbx; have hs1 := hbx.size; simp at hs1; have HKX := hid ((HK1.out _).trans (Kept8.of_below (B := B) hbx (by simp; omega))); clear hbx)
      | (at_builtin; refine wpApp8s rfl (.tmp 28) (.tmp 29) rfl B _ xs rfl hown1 _ rfl _ rfl (by simp at htl; omega) (by omega) ?_))
    intro v2 w2 hown2 hk2'
    go_wp2
    go_ret
    exact ⟨_, rfl, by rw [HTX.out]; simpa [hk2] using hown2, HKX.out.trans hk2'⟩
  by_cases hk3 : v.k = 3
  · go_enter Tryz.func64, Tryz.ntmps64
    go_wp2_with (go_at_call 106; refine (addString_says v.s B _ xs _ (by omega) (hown.alloc _) (by simp; omega) (by omega)).mono ?_; rintro e w1 ⟨v1, rfl, hown1, hkk⟩)
    go_ret
    exact ⟨_, rfl, by rw [HTX.out]; simpa [hk3] using hown1, (HK1.out _).trans hkk⟩
  by_cases hk4 : v.k = 4
  · go_enter Tryz.func64, Tryz.ntmps64
    go_wp2_with (go_at_call 107; refine (addName_says v.s B _ xs _ (by omega) (hown.alloc _) (by simp; omega) (by omega)).mono ?_; rintro e w1 ⟨v1, rfl, hown1, hkk⟩)
    go_ret
    exact ⟨_, rfl, by rw [HTX.out]; simpa [hk4] using hown1, (HK1.out _).trans (hkk.kept (hown.alloc _) (by simp; omega))⟩
  by_cases hk5 : v.k = 5
  · have HC := hid (fun w1 h1 h2 h3 => addList_says ih v.l al cl w1 B sv xs hl HL.out HSH.out.1 h1 hB0 h2 h3 (by omega))
    go_enter Tryz.func64, Tryz.ntmps64
    go_wp2_with (go_at_call 108; refine (HC.out _ (HBA.out _) (by simp; omega) (hown.alloc _)).mono ?_; rintro e w1 ⟨v1, rfl, hown1, hkk⟩)
    go_ret
    exact ⟨_, rfl, by rw [HTX.out]; simpa [hk5] using hown1, (HK1.out _).trans hkk⟩
  by_cases hk6 : v.k = 6
  · have hN := own_names HO.out.1
    have HC := hid (fun w1 h1 h2 h3 => addDict_says ih v.f af cf w1 B sv xs hf HF.out (fun i q hq => ⟨by have := nmOk_sizeV (hN i q hq).1; omega, HSH.out.2 i q hq⟩) h1 hB0 h2 h3 (by omega))
    clear hN
    go_enter Tryz.func64, Tryz.ntmps64
    go_wp2_with (go_at_call 109; refine (HC.out _ (HBA.out _) (by simp; omega) (hown.alloc _)).mono ?_; rintro e w1 ⟨v1, rfl, hown1, hkk⟩)
    go_ret
    exact ⟨_, rfl, by rw [HTX.out]; simpa [hk6] using hown1, (HK1.out _).trans hkk⟩
  have hk7 : v.k = 7 := by
    rcases HO.out.1 with h | h | h | h | h | h | h | h <;> omega
  have hn := (own7 hk7).1 HO.out.1
  obtain ⟨n, hn0⟩ : ∃ n : Nat, v.n = n := ⟨v.n.toNat, by omega⟩
  have hn60 : n ≤ 60 := by omega
  have hl2 := dec_small n (by omega)
  have HTX7 := hid (show v.txt = Lib.decDigits n ++ [32, 48, 32, 82] by rw [HTX.out]; simp [hk7, hn0]; rw [Nat.mod_eq_of_lt (by omega)])
  clear hn
  go_enter Tryz.func64, Tryz.ntmps64
  go_wp2_with (first
    | (go_at_call 110; refine (appendInt_says hr n (by omega) B _ xs _ (HBA.out _) hB0 (by simp; omega) (hown.alloc _) (by omega)).mono ?_; rintro e w1 ⟨v1, rfl, hown1, hkk⟩; have hs1 := hkk.size; simp at hs1; have HKX := hid ((HK1.out _).trans hkk); clear hkk)
    | (at_builtin; refine wpApp8s rfl (.tmp 58) _ rfl B _ (xs ++ Lib.decDigits n) rfl hown1 _ rfl [32, 48, 32, 82] rfl (by simp [ByteArray.size]; omega) (by omega) ?_))
  intro v2 w2 hown2 hk2'
  go_wp2
  go_ret
  exact ⟨_, rfl, by rw [HTX7.out]; simpa using hown2, HKX.out.trans hk2'⟩
theorem addText_says {m : Int} {w0 : World} (hr : Rdy m w0) (d : Nat) : TextOk w0 d := by
  induction d with
  | zero => intro v cs w B sv xs h; exact h.elim
  | succ d ih => exact addText_step hr ih
end Go.Proofs.YtflcibmjblioaaaGreatDoor
