/-
  Joined: Px, Pz, Zq.
-/
import Derived.Test.YtddoigjjgcefkaaGreatDoorPu
import Derived.Test.YtddoigjjgcefkaaGreatDoorPj

/-
  A value's text is read as it. Plain.
-/
namespace Go.Proofs.YtddoigjjgcefkaaGreatDoor
open Go.RowKit
set_option maxRecDepth 100000

theorem memL_small : ∀ {l : List V} {x : V}, x ∈ l → x.dep ≤ depL l ∧ x.cnt ≤ cntL l
  | y :: l, x, h => by
    rw [depL, cntL]
    rcases List.mem_cons.1 h with rfl | h
    · omega
    · have := memL_small h; omega
theorem memF_small : ∀ {l : List (ByteArray × V)} {q : ByteArray × V}, q ∈ l → q.2.dep ≤ depF l ∧ q.2.cnt ≤ cntF l
  | y :: l, x, h => by
    rw [depF_cons, cntF_cons]
    rcases List.mem_cons.1 h with rfl | h
    · omega
    · have := memF_small h; omega
theorem lenL_cnt : ∀ l : List V, l.length ≤ cntL l
  | [] => by simp
  | x :: l => by have := lenL_cnt l; have := cnt_eq x; rw [cntL]; simp; omega
theorem lenF_cnt : ∀ l : List (ByteArray × V), l.length ≤ cntF l
  | [] => by simp
  | x :: l => by have := lenF_cnt l; have := cnt_eq x.2; rw [cntF_cons]; simp; omega
theorem at_drop {s : ByteArray} {p : Nat} {c : UInt8} {t : List UInt8} (h : s.data.toList.drop p = c :: t) : s.data.toList[p]? = some c := by
  have q := congrArg List.head? h
  rw [List.head?_drop] at q
  rw [q]; rfl
theorem rdV_here {s : ByteArray} {d j p : Nat} {c : UInt8} {t : List UInt8} (hs : skipP s j = p) (h : s.data.toList.drop p = c :: t) : rdV s (d + 1) j = rdAt (rdV s d) s p := by
  have q := not_end h
  rw [rdV, hs, if_neg (by omega)]
theorem rdAt_name {f : Nat → Rd} {s : ByteArray} {p : Nat} {t : List UInt8} (h : s.data.toList.drop p = 47 :: t) : rdAt f s p = nameV s p := by
  unfold rdAt; rw [at_drop h, if_pos rfl]
theorem rdAt_lit {f : Nat → Rd} {s : ByteArray} {p : Nat} {t : List UInt8} (h : s.data.toList.drop p = 40 :: t) : rdAt f s p = litV s p := by
  unfold rdAt; rw [at_drop h, if_neg (by decide), if_pos rfl]
theorem rdAt_dict {f : Nat → Rd} {s : ByteArray} {p : Nat} {t : List UInt8} (h : s.data.toList.drop p = 60 :: 60 :: t) : rdAt f s p = dictV f s p := by
  have d : s.data.toList.drop (p + 1) = 60 :: t := drop_succ_of (n := 1) (a := [60]) h rfl
  unfold rdAt; rw [at_drop h, if_neg (by decide), if_neg (by decide), if_pos rfl, at_drop d, if_pos rfl]
theorem rdAt_list {f : Nat → Rd} {s : ByteArray} {p : Nat} {t : List UInt8} (h : s.data.toList.drop p = 91 :: t) : rdAt f s p = listV f s p := by
  unfold rdAt; rw [at_drop h, if_neg (by decide), if_neg (by decide), if_neg (by decide), if_pos rfl]
theorem rdAt_other {f : Nat → Rd} {s : ByteArray} {p : Nat} {c : UInt8} {t : List UInt8} (h : s.data.toList.drop p = c :: t) (hc : isSg c = false) : rdAt f s p = otherV s p := by
  have q : c ≠ 47 ∧ c ≠ 40 ∧ c ≠ 60 ∧ c ≠ 91 := by
    refine ⟨?_, ?_, ?_, ?_⟩ <;> (rintro rfl; exact absurd hc (by decide))
  unfold rdAt
  rw [at_drop h, if_neg (by simpa using q.1), if_neg (by simpa using q.2.1), if_neg (by simpa using q.2.2.1), if_neg (by simpa using q.2.2.2), if_neg (by simp [hc])]
theorem numb_sg : ∀ c : UInt8, numB c = true → isSg c = false := u8_all (by decide +kernel)
theorem rdAt_num {f : Nat → Rd} {s : ByteArray} {p : Nat} {W r : List UInt8} (hW : ∀ c ∈ W, numB c = true) (hne : W ≠ []) (h : s.data.toList.drop p = W ++ r) : rdAt f s p = otherV s p := by
  match W, hW, hne, h with
  | c :: l, hW, _, h => exact rdAt_other h (numb_sg c (hW c (by simp)))
theorem size0 {b : ByteArray} (h : b.size = 0) : b = eB := by
  apply ba_ext
  have : b.data.toList = [] := List.eq_nil_of_length_eq_zero (by simpa using h)
  rw [this]; rfl
theorem rdV_back : ∀ (d : Nat) (v : V), v.Shp → v.dep ≤ d → v.cnt ≤ 300 → ∀ s, Back (rdV s d) s v
  | 0, v, _, hd, _, _ => by rw [dep_eq] at hd; omega
  | d + 1, v, hS, hd, hc, s => by
    intro j p r hs h hst hrf
    obtain ⟨ho, hL, hF⟩ := (shp_eq v).1 hS
    obtain ⟨c0, t0, ht0, _⟩ := txt_head ho
    rw [rdV_here hs (by rw [h, ht0]; rfl)]
    rw [dep_eq] at hd
    rw [cnt_eq] at hc
    have hLx : ∀ x ∈ v.l, Own x ∧ Back (rdV s d) s x := fun x hx => by
      obtain ⟨i, hi⟩ := List.getElem?_of_mem hx
      have q := (shpL_iff v.l).1 hL i x hi
      have m := memL_small hx
      exact ⟨((shp_eq x).1 q).1, rdV_back d x q (by omega) (by omega) s⟩
    have hFx : ∀ y ∈ v.f, Own y.2 ∧ Back (rdV s d) s y.2 := fun y hy => by
      obtain ⟨i, hi⟩ := List.getElem?_of_mem hy
      have q := (shpF_iff v.f).1 hF i y hi
      have m := memF_small hy
      exact ⟨((shp_eq y.2).1 q).1, rdV_back d y.2 q (by omega) (by omega) s⟩
    have lL := lenL_cnt v.l
    have lF := lenF_cnt v.f
    clear hS hL hF ht0
    obtain ⟨k, n, t, l, f⟩ := v
    simp only at *
    rw [txt_eq] at h hrf ⊢
    simp only at h hrf ⊢
    rcases ho with ⟨hk, hn, hz, hl, hf⟩ | ⟨hk, hn, hz, hl, hf⟩ | ⟨hk, hn, hz, hl, hf⟩ | ⟨hk, hn, hz, hl, hf⟩ | ⟨hk, hn, hz, hl, hf⟩ | ⟨hk, hn, hz, hf⟩ | ⟨hk, hn, hz, hl, hf⟩ | ⟨hk, hn, hn', hz, hl, hf⟩ <;> simp only at hk hn hz hf <;> subst hk
    · obtain rfl := size0 hz; obtain rfl := List.eq_nil_of_length_eq_zero hl; obtain rfl := List.eq_nil_of_length_eq_zero hf; subst hn
      have h' : s.data.toList.drop p = [110, 117, 108, 108] ++ r := h
      rw [rdAt_other (c := 110) h' (by decide), null_back h' hst]; rfl
    · obtain rfl := size0 hz; obtain rfl := List.eq_nil_of_length_eq_zero hl; obtain rfl := List.eq_nil_of_length_eq_zero hf
      rcases hn with rfl | rfl
      · have h' : s.data.toList.drop p = [102, 97, 108, 115, 101] ++ r := h
        rw [rdAt_other (c := 102) h' (by decide), false_back h' hst]; rfl
      · have h' : s.data.toList.drop p = [116, 114, 117, 101] ++ r := h
        rw [rdAt_other (c := 116) h' (by decide), true_back h' hst]; rfl
    · obtain rfl := size0 hz; obtain rfl := List.eq_nil_of_length_eq_zero hl; obtain rfl := List.eq_nil_of_length_eq_zero hf
      rw [if_neg (by decide), if_pos rfl, txtB_ok hn] at h hrf ⊢
      have hrf' := hrf rfl
      simp only at h hrf' ⊢
      rw [rdAt_num (numB_fix n) (fix_ne n) h, num_back hn h hst hrf']; rfl
    · obtain rfl := List.eq_nil_of_length_eq_zero hl; obtain rfl := List.eq_nil_of_length_eq_zero hf; subst hn
      have h' : s.data.toList.drop p = strT t.data.toList ++ r := h
      rw [rdAt_lit (t := t.data.toList.flatMap escS ++ [41] ++ r) (by rw [h']; simp [strT]), litV_back h' (by simpa using hz)]; rfl
    · obtain rfl := List.eq_nil_of_length_eq_zero hl; obtain rfl := List.eq_nil_of_length_eq_zero hf; subst hn
      have h' : s.data.toList.drop p = nameT t.data.toList ++ r := h
      rw [rdAt_name (t := t.data.toList.flatMap escN ++ r) (by rw [h']; simp [nameT]), nameV_back h' hst (by simpa using hz)]; rfl
    · obtain rfl := size0 hz; obtain rfl := List.eq_nil_of_length_eq_zero hf; subst hn
      have h' : s.data.toList.drop p = 91 :: (sepsL l).drop 1 ++ [93] ++ r := h
      rw [rdAt_list (t := (sepsL l).drop 1 ++ [93] ++ r) (by rw [h']; simp), listV_back h' hLx (by omega)]; rfl
    · obtain rfl := size0 hz; obtain rfl := List.eq_nil_of_length_eq_zero hl; subst hn
      have h' : s.data.toList.drop p = 60 :: 60 :: sepsF f ++ [32, 62, 62] ++ r := h
      have hnm : ∀ q ∈ f, nmOk q.1 = true ∧ Own q.2 ∧ Back (rdV s d) s q.2 := fun q hq => by
        obtain ⟨i, hi⟩ := List.getElem?_of_mem hq
        exact ⟨(hf i q hi).1, hFx q hq⟩
      rw [rdAt_dict (t := sepsF f ++ [32, 62, 62] ++ r) (by rw [h']; simp), dictV_back h' hnm (names_pw hf) (by omega)]; rfl
    · obtain rfl := size0 hz; obtain rfl := List.eq_nil_of_length_eq_zero hl; obtain rfl := List.eq_nil_of_length_eq_zero hf
      have hn2 : n ≤ 60 := hn'
      clear hn'
      obtain ⟨m, rfl⟩ : ∃ m : Nat, n = m := ⟨n.toNat, by omega⟩
      have em : (m : Int).toNat % 100 = m := by omega
      have h' : s.data.toList.drop p = Lib.decDigits m ++ 32 :: 48 :: 32 :: 82 :: r := by
        rw [h, if_neg (by decide), if_neg (by decide), if_neg (by decide), if_neg (by decide), if_neg (by decide), if_neg (by decide), if_pos rfl, em]; simp
      rw [rdAt_num (numB_dec m) (dec_ne m) h', ref_back (by omega) (by omega) h' hst]
      rw [if_neg (by decide), if_neg (by decide), if_neg (by decide), if_neg (by decide), if_neg (by decide), if_neg (by decide), if_pos rfl, em]
      simp [V0]; omega
/-- A value that may be, and that is not too great: what its text is read as, whole. -/
theorem pV_txt {v : V} {s : ByteArray} (hf : faultV v = 0) (hs : s.data.toList = v.txt) (hl : s.size ≤ 60000) : pV s 0 = (v, 0, s.size) := by
  have hb : ¬ (300 < v.cnt ∨ 8 < v.dep) := fun h => by rw [fault_many h] at hf; exact absurd hf (by decide)
  have hS : v.Shp := by
    unfold faultV at hf
    rw [if_neg hb] at hf
    by_cases h : v.Shp
    · exact h
    · rw [if_neg h] at hf; exact absurd hf (by decide)
  have hz : v.txt.length = s.size := by rw [← hs]; simp
  obtain ⟨c, t, ht, hc⟩ := txt_head ((shp_eq v).1 hS).1
  obtain ⟨c1, c2, _⟩ := opB_out hc
  have h0 : s.data.toList.drop 0 = v.txt ++ [] := by rw [List.drop_zero, hs]; simp
  have q := rdV_back 8 v hS (by omega) (by omega) s 0 0 [] (skip_here (by rw [h0, ht]; rfl) c1 c2) h0 (.inl rfl) (fun _ => noref_end (by rw [Nat.zero_add, hz, List.drop_eq_nil_of_le (by simp)]))
  rw [Nat.zero_add, hz] at q
  exact pV_mk hl q hf
/-- Two have one text just if they are the same. -/
theorem txt_inj {v o : V} (hv : faultV v = 0) (ho : faultV o = 0) (hl : v.txt.length ≤ 60000) (h : v.txt = o.txt) : v = o := by
  have a := pV_txt (s := ⟨v.txt.toArray⟩) hv (by simp) (by simpa [ByteArray.size] using hl)
  have b := pV_txt (s := ⟨v.txt.toArray⟩) ho (by simp [h]) (by simpa [ByteArray.size] using hl)
  rw [a] at b
  injection b
end Go.Proofs.YtddoigjjgcefkaaGreatDoor

/-
  How long a value's text is. Plain.
-/
namespace Go.Proofs.YtddoigjjgcefkaaGreatDoor
open Go.RowKit
set_option maxRecDepth 100000

theorem sepsL_long : ∀ l : List V, (∀ x ∈ l, x.txt.length + 1 ≤ 4 * x.bulk + 45 * x.cnt) → (sepsL l).length ≤ 4 * bulkL l + 45 * cntL l
  | [], _ => by simp [sepsL]
  | x :: l, h => by
    have a := h x (by simp)
    have b := sepsL_long l (fun y hy => h y (by simp [hy]))
    rw [sepsL, bulkL, cntL]
    simp
    omega
theorem sepsF_long : ∀ l : List (ByteArray × V), (∀ q ∈ l, q.2.txt.length + 1 ≤ 4 * q.2.bulk + 45 * q.2.cnt) → (sepsF l).length ≤ 4 * bulkF l + 45 * cntF l
  | [], _ => by simp [sepsF]
  | q :: l, h => by
    have a := h q (by simp)
    have b := sepsF_long l (fun y hy => h y (by simp [hy]))
    have c := flatN_len q.1.data.toList
    have z : q.1.data.toList.length = q.1.size := by simp
    rw [z] at c
    rw [sepsF, fieldT_eq, bulkF_cons, cntF_cons, nameT]
    simp only [List.length_append, List.length_cons]
    omega
theorem txt_long (v : V) : v.Shp → v.txt.length + 1 ≤ 4 * v.bulk + 45 * v.cnt := by
  induction v using V.ind with
  | h v hL hF =>
    intro hS
    obtain ⟨ho, sL, sF⟩ := (shp_eq v).1 hS
    have aL := sepsL_long v.l (fun x hx => hL x hx (by
      obtain ⟨i, hi⟩ := List.getElem?_of_mem hx
      exact (shpL_iff v.l).1 sL i x hi))
    have aF := sepsF_long v.f (fun q hq => hF q hq (by
      obtain ⟨i, hi⟩ := List.getElem?_of_mem hq
      exact (shpF_iff v.f).1 sF i q hi))
    have zs : v.s.data.toList.length = v.s.size := by simp
    have cS := flat_len v.s.data.toList
    have cN := flatN_len v.s.data.toList
    rw [zs] at cS cN
    rw [bulk_eq', cnt_eq, txt_eq]
    rcases ho with ⟨hk, _⟩ | ⟨hk, _⟩ | ⟨hk, hn, _⟩ | ⟨hk, _⟩ | ⟨hk, _⟩ | ⟨hk, _⟩ | ⟨hk, _⟩ | ⟨hk, h1, h2, _⟩ <;> rw [hk]
    · show 4 + 1 ≤ _; omega
    · rw [if_pos rfl]; split
      · show 4 + 1 ≤ _; omega
      · show 5 + 1 ≤ _; omega
    · rw [if_neg (by decide), if_pos rfl, txtB_ok hn]
      have := fixTxt_len v.n hn
      show (fixTxt v.n).length + 1 ≤ _
      omega
    · show (strT v.s.data.toList).length + 1 ≤ _
      unfold strT
      simp only [List.length_append, List.length_cons, List.length_nil]
      omega
    · show (nameT v.s.data.toList).length + 1 ≤ _
      unfold nameT
      simp only [List.length_cons]
      omega
    · show (91 :: (sepsL v.l).drop 1 ++ [93]).length + 1 ≤ _
      simp only [List.length_append, List.length_cons, List.length_nil, List.length_drop]
      omega
    · show (60 :: 60 :: sepsF v.f ++ [32, 62, 62]).length + 1 ≤ _
      simp only [List.length_append, List.length_cons, List.length_nil]
      omega
    · show (Lib.decDigits (v.n.toNat % 100) ++ [32, 48, 32, 82]).length + 1 ≤ _
      have q : (Lib.decDigits (v.n.toNat % 100)).length ≤ 2 := by
        by_cases h : v.n.toNat % 100 < 10
        · rw [dec_one h]; simp
        · rw [Lib.decDigits_two h (by omega)]; simp
      simp only [List.length_append, List.length_cons, List.length_nil]
      omega
end Go.Proofs.YtddoigjjgcefkaaGreatDoor

/-
  How heavy a value is: what LightValue says of one whose bulk is bounded.
-/
namespace Go.Proofs.YtddoigjjgcefkaaGreatDoor
open Go.RowKit
set_option maxRecDepth 100000

theorem bulkL_le (l : List V) (j : Nat) : bulkL (l.take j) ≤ bulkL l := by
  induction l generalizing j with
  | nil => simp
  | cons x l ih => cases j with
    | zero => simp [bulkL]
    | succ j => have := ih j; rw [List.take_succ_cons, bulkL, bulkL]; omega
theorem bulkF_le (l : List (ByteArray × V)) (j : Nat) : bulkF (l.take j) ≤ bulkF l := by
  induction l generalizing j with
  | nil => simp
  | cons x l ih => cases j with
    | zero => simp [bulkF]
    | succ j => have := ih j; rw [List.take_succ_cons, bulkF_cons, bulkF_cons]; omega
theorem bulkL_step : ∀ (l : List V) (j : Nat) (h : j < l.length), bulkL (l.take (j + 1)) = bulkL (l.take j) + l[j].bulk
  | x :: l, 0, _ => by simp [bulkL]
  | x :: l, j + 1, h => by
    have := bulkL_step l j (by simpa using h)
    rw [List.take_succ_cons, List.take_succ_cons, bulkL, bulkL, this]; simp; omega
theorem bulkF_step : ∀ (l : List (ByteArray × V)) (j : Nat) (h : j < l.length), bulkF (l.take (j + 1)) = bulkF (l.take j) + 1 + l[j].1.size + l[j].2.bulk
  | x :: l, 0, _ => by
    rw [List.take_succ_cons, bulkF_cons]; simp [bulkF]
  | x :: l, j + 1, h => by
    have := bulkF_step l j (by simpa using h)
    rw [List.take_succ_cons, List.take_succ_cons, bulkF_cons, bulkF_cons, this]; simp; omega
theorem cntF_step : ∀ (l : List (ByteArray × V)) (j : Nat) (h : j < l.length), cntF (l.take (j + 1)) = cntF (l.take j) + l[j].2.cnt
  | x :: l, 0, _ => by
    rw [List.take_succ_cons, cntF_cons]; simp [cntF]
  | x :: l, j + 1, h => by
    have := cntF_step l j (by simpa using h)
    rw [List.take_succ_cons, List.take_succ_cons, cntF_cons, cntF_cons, this]; simp; omega
end Go.Proofs.YtddoigjjgcefkaaGreatDoor
