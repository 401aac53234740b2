/-
  Joined: Px, Kh, Ve4.
-/
import Derived.Test.YtflcibmjblioaaaGreatDoorZc
import Derived.Test.YtflcibmjblioaaaGreatDoorVn
import Derived.Test.YtflcibmjblioaaaGreatDoorLze
import Derived.Test.YtflcibmjblioaaaGreatDoorVf
import Derived.Test.YtflcibmjblioaaaGreatDoorVc5
import Derived.Test.YtflcibmjblioaaaGreatDoorKf
import Derived.Test.YtflcibmjblioaaaGreatDoorVe3
import Derived.Test.YtflcibmjblioaaaGreatDoorVd5
import Derived.Deep.RegionHeld3

/-
  A value's text is read as it. Plain.
-/
namespace Go.Proofs.YtflcibmjblioaaaGreatDoor
open Go.RowKit
set_option maxRecDepth 100000

theorem memL_small : ∀ {l : List V} {x : V}, x ∈ l → x.dep ≤ depL l ∧ x.cnt ≤ cntL l
  | y :: l, x, h => by
    rw [depL, cntL]
    rcases List.mem_cons.1 h with rfl | h
    · omega
    · have := memL_small h; omega
theorem memF_small : ∀ {l : List (ByteArray × V)} {q : ByteArray × V}, q ∈ l → q.2.dep ≤ depF l ∧ q.2.cnt ≤ cntF l
  | y :: l, x, h => by
    rw [depF_cons, cntF_cons]
    rcases List.mem_cons.1 h with rfl | h
    · omega
    · have := memF_small h; omega
theorem lenL_cnt : ∀ l : List V, l.length ≤ cntL l
  | [] => by simp
  | x :: l => by have := lenL_cnt l; have := cnt_eq x; rw [cntL]; simp; omega
theorem lenF_cnt : ∀ l : List (ByteArray × V), l.length ≤ cntF l
  | [] => by simp
  | x :: l => by have := lenF_cnt l; have := cnt_eq x.2; rw [cntF_cons]; simp; omega
theorem at_drop {s : ByteArray} {p : Nat} {c : UInt8} {t : List UInt8} (h : s.data.toList.drop p = c :: t) : s.data.toList[p]? = some c := by
  have q := congrArg List.head? h
  rw [List.head?_drop] at q
  rw [q]; rfl
theorem rdV_here {s : ByteArray} {d j p : Nat} {c : UInt8} {t : List UInt8} (hs : skipP s j = p) (h : s.data.toList.drop p = c :: t) : rdV s (d + 1) j = rdAt (rdV s d) s p := by
  have q := not_end h
  rw [rdV, hs, if_neg (by omega)]
theorem rdAt_name {f : Nat → Rd} {s : ByteArray} {p : Nat} {t : List UInt8} (h : s.data.toList.drop p = 47 :: t) : rdAt f s p = nameV s p := by
  unfold rdAt; rw [at_drop h, if_pos rfl]
theorem rdAt_lit {f : Nat → Rd} {s : ByteArray} {p : Nat} {t : List UInt8} (h : s.data.toList.drop p = 40 :: t) : rdAt f s p = litV s p := by
  unfold rdAt; rw [at_drop h, if_neg (by decide), if_pos rfl]
theorem rdAt_dict {f : Nat → Rd} {s : ByteArray} {p : Nat} {t : List UInt8} (h : s.data.toList.drop p = 60 :: 60 :: t) : rdAt f s p = dictV f s p := by
  have d : s.data.toList.drop (p + 1) = 60 :: t := drop_succ_of (n := 1) (a := [60]) h rfl
  unfold rdAt; rw [at_drop h, if_neg (by decide), if_neg (by decide), if_pos rfl, at_drop d, if_pos rfl]
theorem rdAt_list {f : Nat → Rd} {s : ByteArray} {p : Nat} {t : List UInt8} (h : s.data.toList.drop p = 91 :: t) : rdAt f s p = listV f s p := by
  unfold rdAt; rw [at_drop h, if_neg (by decide), if_neg (by decide), if_neg (by decide), if_pos rfl]
theorem rdAt_other {f : Nat → Rd} {s : ByteArray} {p : Nat} {c : UInt8} {t : List UInt8} (h : s.data.toList.drop p = c :: t) (hc : isSg c = false) : rdAt f s p = otherV s p := by
  have q : c ≠ 47 ∧ c ≠ 40 ∧ c ≠ 60 ∧ c ≠ 91 := by
    refine ⟨?_, ?_, ?_, ?_⟩ <;> (rintro rfl; exact absurd hc (by decide))
  unfold rdAt
  rw [at_drop h, if_neg (by simpa using q.1), if_neg (by simpa using q.2.1), if_neg (by simpa using q.2.2.1), if_neg (by simpa using q.2.2.2), if_neg (by simp [hc])]
theorem numb_sg : ∀ c : UInt8, numB c = true → isSg c = false := u8_all (by decide +kernel)
theorem rdAt_num {f : Nat → Rd} {s : ByteArray} {p : Nat} {W r : List UInt8} (hW : ∀ c ∈ W, numB c = true) (hne : W ≠ []) (h : s.data.toList.drop p = W ++ r) : rdAt f s p = otherV s p := by
  match W, hW, hne, h with
  | c :: l, hW, _, h => exact rdAt_other h (numb_sg c (hW c (by simp)))
theorem size0 {b : ByteArray} (h : b.size = 0) : b = eB := by
  apply ba_ext
  have : b.data.toList = [] := List.eq_nil_of_length_eq_zero (by simpa using h)
  rw [this]; rfl
theorem rdV_back : ∀ (d : Nat) (v : V), v.Shp → v.dep ≤ d → v.cnt ≤ 300 → ∀ s, Back (rdV s d) s v
  | 0, v, _, hd, _, _ => by rw [dep_eq] at hd; omega
  | d + 1, v, hS, hd, hc, s => by
    intro j p r hs h hst hrf
    obtain ⟨ho, hL, hF⟩ := (shp_eq v).1 hS
    obtain ⟨c0, t0, ht0, _⟩ := txt_head ho
    rw [rdV_here hs (by rw [h, ht0]; rfl)]
    rw [dep_eq] at hd
    rw [cnt_eq] at hc
    have hLx : ∀ x ∈ v.l, Own x ∧ Back (rdV s d) s x := fun x hx => by
      obtain ⟨i, hi⟩ := List.getElem?_of_mem hx
      have q := (shpL_iff v.l).1 hL i x hi
      have m := memL_small hx
      exact ⟨((shp_eq x).1 q).1, rdV_back d x q (by omega) (by omega) s⟩
    have hFx : ∀ y ∈ v.f, Own y.2 ∧ Back (rdV s d) s y.2 := fun y hy => by
      obtain ⟨i, hi⟩ := List.getElem?_of_mem hy
      have q := (shpF_iff v.f).1 hF i y hi
      have m := memF_small hy
      exact ⟨((shp_eq y.2).1 q).1, rdV_back d y.2 q (by omega) (by omega) s⟩
    have lL := lenL_cnt v.l
    have lF := lenF_cnt v.f
    clear hS hL hF ht0
    obtain ⟨k, n, t, l, f⟩ := v
    simp only at *
    rw [txt_eq] at h hrf ⊢
    simp only at h hrf ⊢
    rcases ho with ⟨hk, hn, hz, hl, hf⟩ | ⟨hk, hn, hz, hl, hf⟩ | ⟨hk, hn, hz, hl, hf⟩ | ⟨hk, hn, hz, hl, hf⟩ | ⟨hk, hn, hz, hl, hf⟩ | ⟨hk, hn, hz, hf⟩ | ⟨hk, hn, hz, hl, hf⟩ | ⟨hk, hn, hn', hz, hl, hf⟩ <;> simp only at hk hn hz hf <;> subst hk
    · obtain rfl := size0 hz; obtain rfl := List.eq_nil_of_length_eq_zero hl; obtain rfl := List.eq_nil_of_length_eq_zero hf; subst hn
      have h' : s.data.toList.drop p = [110, 117, 108, 108] ++ r := h
      rw [rdAt_other (c := 110) h' (by decide), null_back h' hst]; rfl
    · obtain rfl := size0 hz; obtain rfl := List.eq_nil_of_length_eq_zero hl; obtain rfl := List.eq_nil_of_length_eq_zero hf
      rcases hn with rfl | rfl
      · have h' : s.data.toList.drop p = [102, 97, 108, 115, 101] ++ r := h
        rw [rdAt_other (c := 102) h' (by decide), false_back h' hst]; rfl
      · have h' : s.data.toList.drop p = [116, 114, 117, 101] ++ r := h
        rw [rdAt_other (c := 116) h' (by decide), true_back h' hst]; rfl
    · obtain rfl := size0 hz; obtain rfl := List.eq_nil_of_length_eq_zero hl; obtain rfl := List.eq_nil_of_length_eq_zero hf
      rw [if_neg (by decide), if_pos rfl, txtB_ok hn] at h hrf ⊢
      have hrf' := hrf rfl
      simp only at h hrf' ⊢
      rw [rdAt_num (numB_fix n) (fix_ne n) h, num_back hn h hst hrf']; rfl
    · obtain rfl := List.eq_nil_of_length_eq_zero hl; obtain rfl := List.eq_nil_of_length_eq_zero hf; subst hn
      have h' : s.data.toList.drop p = strT t.data.toList ++ r := h
      rw [rdAt_lit (t := t.data.toList.flatMap escS ++ [41] ++ r) (by rw [h']; simp [strT]), litV_back h' (by simpa using hz)]; rfl
    · obtain rfl := List.eq_nil_of_length_eq_zero hl; obtain rfl := List.eq_nil_of_length_eq_zero hf; subst hn
      have h' : s.data.toList.drop p = nameT t.data.toList ++ r := h
      rw [rdAt_name (t := t.data.toList.flatMap escN ++ r) (by rw [h']; simp [nameT]), nameV_back h' hst (by simpa using hz)]; rfl
    · obtain rfl := size0 hz; obtain rfl := List.eq_nil_of_length_eq_zero hf; subst hn
      have h' : s.data.toList.drop p = 91 :: (sepsL l).drop 1 ++ [93] ++ r := h
      rw [rdAt_list (t := (sepsL l).drop 1 ++ [93] ++ r) (by rw [h']; simp), listV_back h' hLx (by omega)]; rfl
    · obtain rfl := size0 hz; obtain rfl := List.eq_nil_of_length_eq_zero hl; subst hn
      have h' : s.data.toList.drop p = 60 :: 60 :: sepsF f ++ [32, 62, 62] ++ r := h
      have hnm : ∀ q ∈ f, nmOk q.1 = true ∧ Own q.2 ∧ Back (rdV s d) s q.2 := fun q hq => by
        obtain ⟨i, hi⟩ := List.getElem?_of_mem hq
        exact ⟨(hf i q hi).1, hFx q hq⟩
      rw [rdAt_dict (t := sepsF f ++ [32, 62, 62] ++ r) (by rw [h']; simp), dictV_back h' hnm (names_pw hf) (by omega)]; rfl
    · obtain rfl := size0 hz; obtain rfl := List.eq_nil_of_length_eq_zero hl; obtain rfl := List.eq_nil_of_length_eq_zero hf
      have hn2 : n ≤ 60 := hn'
      clear hn'
      obtain ⟨m, rfl⟩ : ∃ m : Nat, n = m := ⟨n.toNat, by omega⟩
      have em : (m : Int).toNat % 100 = m := by omega
      have h' : s.data.toList.drop p = Lib.decDigits m ++ 32 :: 48 :: 32 :: 82 :: r := by
        rw [h, if_neg (by decide), if_neg (by decide), if_neg (by decide), if_neg (by decide), if_neg (by decide), if_neg (by decide), if_pos rfl, em]; simp
      rw [rdAt_num (numB_dec m) (dec_ne m) h', ref_back (by omega) (by omega) h' hst]
      rw [if_neg (by decide), if_neg (by decide), if_neg (by decide), if_neg (by decide), if_neg (by decide), if_neg (by decide), if_pos rfl, em]
      simp [V0]; omega
end Go.Proofs.YtflcibmjblioaaaGreatDoor

/-
  A whole number's value (file.wholeValue).
-/
namespace Go.Proofs.YtflcibmjblioaaaGreatDoor
open Go.RowKit
set_option maxRecDepth 100000
set_option maxHeartbeats 1000000 in
theorem whole_says (n : Int) (w : World) (h0 : 0 ≤ n) (h1 : n ≤ 100000000) :
    Calls Tryz.prog 26 #[.int .i64 n] w fun e w' => e = .returned (.agg #[.int .i64 2, .int .i64 (n * 1000), .string .empty, .slice none 0 0, .slice none 0 0]) ∧ Below w.heap.size w w' := by
  go_enter Tryz.func26, Tryz.ntmps26
  go_wp2
  refine bodyPost_ret (v := .agg #[.int .i64 2, .int .i64 (n * 1000), .string ⟨#[]⟩, .slice none 0 0, .slice none 0 0]) (by simp [results, Tryz.results26, go_sem]) rfl ⟨rfl, ?_⟩
  exact (Below.refl _ w).alloc (Nat.le_refl _) _
end Go.Proofs.YtflcibmjblioaaaGreatDoor

/-
  A field that is set: the program's own answer: two copies first.
-/
namespace Go.Proofs.YtflcibmjblioaaaGreatDoor
open Go.RowKit
set_option maxRecDepth 100000
attribute [local go_sem ↓] Go.wp_at_zero Go.wp_at_succ

/-- A struct of five stored into a block. -/
def store5 (w : World) (b : Nat) (a0 a1 a2 a3 a4 : Value) : World := ((((w.setCell ⟨b, 0, none⟩ a0).setCell ⟨b, 1, none⟩ a1).setCell ⟨b, 2, none⟩ a2).setCell ⟨b, 3, none⟩ a3).setCell ⟨b, 4, none⟩ a4
theorem store5_at {w : World} {b : Nat} {t : TypeId} {c0 c1 c2 c3 c4 : Value} (h : At w b t #[c0, c1, c2, c3, c4]) (a0 a1 a2 a3 a4 : Value) : At (store5 w b a0 a1 a2 a3 a4) b t #[a0, a1, a2, a3, a4] := by
  unfold At store5 at *
  simp [World.setCell, Array.getElem?_modify, h]
theorem store5_other {w : World} {b k : Nat} (h : k ≠ b) (a0 a1 a2 a3 a4 : Value) : (store5 w b a0 a1 a2 a3 a4).heap[k]? = w.heap[k]? := by
  unfold store5
  rw [Below.heap_setCell _ _ _ _ (by simpa using h), Below.heap_setCell _ _ _ _ (by simpa using h), Below.heap_setCell _ _ _ _ (by simpa using h), Below.heap_setCell _ _ _ _ (by simpa using h), Below.heap_setCell _ _ _ _ (by simpa using h)]
theorem store5_size (w : World) (b : Nat) (a0 a1 a2 a3 a4 : Value) : (store5 w b a0 a1 a2 a3 a4).heap.size = w.heap.size := by simp [store5, World.setCell]
theorem store5_below {B b : Nat} {a w : World} (h : Below B a w) (hb : B ≤ b) (a0 a1 a2 a3 a4 : Value) : Below B a (store5 w b a0 a1 a2 a3 a4) :=
  ((((h.setCell (p := ⟨b, 0, none⟩) hb a0).setCell (p := ⟨b, 1, none⟩) hb a1).setCell (p := ⟨b, 2, none⟩) hb a2).setCell (p := ⟨b, 3, none⟩) hb a3).setCell (p := ⟨b, 4, none⟩) hb a4
/-- Both have been copied. -/
structure Two (e : Nat) (w : World) (S1 : Nat) (name : ByteArray) (v x : V) (al3 af3 al4 af4 : Option Addr) (cl3 cf3 cl4 cf4 : Nat) (wx : World) : Prop where
  bv : At wx w.heap.size 40 #[.int .i64 v.k, .int .i64 v.n, .string v.s, .slice al3 v.l.length cl3, .slice af3 v.f.length cf3]
  bn : At wx (w.heap.size + 1) 9 #[.string name]
  bx : At wx (w.heap.size + 1 + 1) 40 #[.int .i64 x.k, .int .i64 x.n, .string x.s, .slice al4 x.l.length cl4, .slice af4 x.f.length cf4]
  br : At wx (w.heap.size + 1 + 1 + 1) 40 #[.int .i64 0, .int .i64 0, .string ⟨#[]⟩, .slice none 0 0, .slice none 0 0]
  gv : RepG (e + 1) (w.heap.size + 1 + 1 + 1 + 1) wx v [.int .i64 v.k, .int .i64 v.n, .string v.s, .slice al3 v.l.length cl3, .slice af3 v.f.length cf3]
  lv : ∀ g cap n, Value.slice af3 v.f.length cf3 = .slice (some ⟨g, 0, none⟩) n cap → 0 < v.f.length → g < S1
  gx : RepG (e + 1) S1 wx x [.int .i64 x.k, .int .i64 x.n, .string x.s, .slice al4 x.l.length cl4, .slice af4 x.f.length cf4]
  below : Below w.heap.size w wx
  size : S1 ≤ wx.heap.size
  low : w.heap.size + 1 + 1 + 1 + 1 ≤ S1
theorem Two.drew {e : Nat} {w : World} {S1 : Nat} {name : ByteArray} {v x : V} {al3 af3 al4 af4 : Option Addr} {cl3 cf3 cl4 cf4 : Nat} {wx : World} (h : Two e w S1 name v x al3 af3 al4 af4 cl3 cf3 cl4 cf4 wx) : Two e w S1 name v x al3 af3 al4 af4 cl3 cf3 cl4 cf4 wx.drew :=
  ⟨h.bv, h.bn, h.bx, h.br, h.gv.same (Nat.le_refl _) (fun _ _ _ => rfl), h.lv, h.gx.same (Nat.le_refl _) (fun _ _ _ => rfl), h.below.drew, h.size, h.low⟩
theorem two_of {e : Nat} {w wb w1 w2 : World} {name : ByteArray} {v x : V} {al af al2 af2 al3 af3 al4 af4 : Option Addr} {cl cf cl2 cf2 cl3 cf3 cl4 cf4 : Nat} (hbw : Below w.heap.size w wb) (hws : wb.heap.size = w.heap.size + 1 + 1 + 1 + 1)
    (A1 : At wb w.heap.size 40 #[.int .i64 v.k, .int .i64 v.n, .string v.s, .slice al v.l.length cl, .slice af v.f.length cf]) (A2 : At wb (w.heap.size + 1) 9 #[.string name]) (A3 : At wb (w.heap.size + 1 + 1) 40 #[.int .i64 x.k, .int .i64 x.n, .string x.s, .slice al2 x.l.length cl2, .slice af2 x.f.length cf2]) (A4 : At wb (w.heap.size + 1 + 1 + 1) 40 #[.int .i64 0, .int .i64 0, .string ⟨#[]⟩, .slice none 0 0, .slice none 0 0])
    (h1 : Below wb.heap.size wb w1) (g1 : RepG (e + 1) wb.heap.size w1 v [.int .i64 v.k, .int .i64 v.n, .string v.s, .slice al3 v.l.length cl3, .slice af3 v.f.length cf3]) (h2 : Below w1.heap.size w1 w2) (g2 : RepG (e + 1) w1.heap.size w2 x [.int .i64 x.k, .int .i64 x.n, .string x.s, .slice al4 x.l.length cl4, .slice af4 x.f.length cf4]) :
    Two e w w1.heap.size name v x al3 af3 al4 af4 cl3 cf3 cl4 cf4 (store5 (store5 w2 w.heap.size (.int .i64 v.k) (.int .i64 v.n) (.string v.s) (.slice al3 v.l.length cl3) (.slice af3 v.f.length cf3)) (w.heap.size + 1 + 1) (.int .i64 x.k) (.int .i64 x.n) (.string x.s) (.slice al4 x.l.length cl4) (.slice af4 x.f.length cf4)) := by
  have h12 : Below wb.heap.size wb w2 := h1.trans (h2.mono h1.size)
  have oth : ∀ k, k ≠ w.heap.size → k ≠ w.heap.size + 1 + 1 → (store5 (store5 w2 w.heap.size (.int .i64 v.k) (.int .i64 v.n) (.string v.s) (.slice al3 v.l.length cl3) (.slice af3 v.f.length cf3)) (w.heap.size + 1 + 1) (.int .i64 x.k) (.int .i64 x.n) (.string x.s) (.slice al4 x.l.length cl4) (.slice af4 x.f.length cf4)).heap[k]? = w2.heap[k]? := fun k n1 n2 => by
    rw [store5_other n2, store5_other n1]
  have hs1 := h1.size
  have hs2 := h2.size
  refine ⟨?_, ?_, ?_, ?_, ?_, ?_, ?_, ?_, ?_, by omega⟩
  · exact (store5_other (by omega) _ _ _ _ _).trans (store5_at (A1.later h12) _ _ _ _ _)
  · exact (oth _ (by omega) (by omega)).trans (A2.later h12)
  · exact store5_at (show At _ _ _ _ from (store5_other (by omega) _ _ _ _ _).trans (A3.later h12)) _ _ _ _ _
  · exact (oth _ (by omega) (by omega)).trans (A4.later h12)
  · rw [← hws]
    exact (g1.later h2).same (by rw [store5_size, store5_size]; exact Nat.le_refl _) (fun b hb _ => oth b (by omega) (by omega))
  · intro g cap n he h0
    obtain ⟨_, _, _, _, bl, bf, hc, _, _, hrow, _, hF⟩ := g1
    simp only [List.cons.injEq, and_true, true_and] at hc
    obtain ⟨_, hc⟩ := hc
    cases hc
    obtain ⟨_, ha, hl, _⟩ := hF 0 v.f[0] (List.getElem?_eq_getElem h0)
    rw [ha] at he
    cases he
    exact hl
  · exact g2.same (by rw [store5_size, store5_size]; exact Nat.le_refl _) (fun b hb _ => oth b (by omega) (by omega))
  · exact store5_below (store5_below (hbw.trans (h12.mono hbw.size)) (Nat.le_refl _) _ _ _ _ _) (by omega) _ _ _ _ _
  · rw [store5_size, store5_size]; exact hs2
theorem Two.later {e : Nat} {w : World} {S1 : Nat} {name : ByteArray} {v x : V} {al3 af3 al4 af4 : Option Addr} {cl3 cf3 cl4 cf4 : Nat} {wx w' : World} (h : Two e w S1 name v x al3 af3 al4 af4 cl3 cf3 cl4 cf4 wx) (hb : Below wx.heap.size wx w') : Two e w S1 name v x al3 af3 al4 af4 cl3 cf3 cl4 cf4 w' :=
  ⟨h.bv.later hb, h.bn.later hb, h.bx.later hb, h.br.later hb, h.gv.later hb, h.lv, h.gx.later hb, h.below.trans (hb.mono h.below.size), Nat.le_trans h.size hb.size, h.low⟩
theorem flatO_take {d : Nat} {w : World} : ∀ {O : List FC} (i : Nat), (∀ o ∈ O, o.ok d w) → (flatO O).take (i * 6) = flatO (O.take i)
  | [], i, _ => by simp [flatO]
  | o :: O, 0, _ => by simp [flatO]
  | o :: O, i + 1, h => by
    have h1 := FC.len (h o (by simp))
    have ih := flatO_take (O := O) i (fun p hp => h p (by simp [hp]))
    rw [List.take_succ_cons, show flatO (o :: O) = o.cells ++ flatO O from by simp [flatO], show flatO (o :: O.take i) = o.cells ++ flatO (O.take i) from by simp [flatO], ← ih, List.take_append, h1, List.take_of_length_le (by omega), show (i + 1) * 6 - 6 = i * 6 by omega]
theorem flatO_drop {d : Nat} {w : World} : ∀ {O : List FC} (i : Nat), (∀ o ∈ O, o.ok d w) → (flatO O).drop (i * 6) = flatO (O.drop i)
  | [], i, _ => by simp [flatO]
  | o :: O, 0, _ => by simp [flatO]
  | o :: O, i + 1, h => by
    have h1 := FC.len (h o (by simp))
    have ih := flatO_drop (O := O) i (fun p hp => h p (by simp [hp]))
    rw [List.drop_succ_cons, show flatO (o :: O) = o.cells ++ flatO O from by simp [flatO], ← ih, List.drop_append, h1, List.drop_eq_nil_of_le (by omega), List.nil_append, show (i + 1) * 6 - 6 = i * 6 by omega]
/-- The fields of a copy, and their row. -/
theorem row_of_copy {e m : Nat} {w : World} {v : V} {al af : Option Addr} {cl cf : Nat} (h : RepG (e + 1) m w v [.int .i64 v.k, .int .i64 v.n, .string v.s, .slice al v.l.length cl, .slice af v.f.length cf]) :
    ∃ O : List FC, O.map (·.1) = v.f ∧ w.ownsRow m 74 6 (.slice af v.f.length cf) v.f.length (flatO O) ∧ (∀ o ∈ O, FC.ok e w o) ∧ ∀ W : World, w.heap.size ≤ W.heap.size → (∀ b, m ≤ b → b < w.heap.size → some b ≠ (Value.slice af v.f.length cf).ownBlock → W.heap[b]? = w.heap[b]?) → ∀ o ∈ O, FC.ok e W o := by
  obtain ⟨al', af', cl', cf', bl, bf, hc, _, ⟨_, hmf⟩, hrow, _, hF⟩ := h
  simp only [List.cons.injEq, and_true, true_and, Value.slice.injEq] at hc
  obtain ⟨⟨rfl, rfl⟩, rfl, rfl⟩ := hc
  by_cases h0 : v.f.length = 0
  · obtain ⟨rfl, rfl⟩ := hrow.1 h0
    have hf : v.f = [] := List.eq_nil_of_length_eq_zero h0
    refine ⟨[], by rw [hf]; rfl, ?_, by simp, by simp⟩
    rw [h0]; exact World.ownsRow_nil _ _ _ _
  · obtain ⟨⟨cur, hcur, hsz⟩, hle, hmx⟩ := hrow.2 (by omega)
    obtain ⟨_, ha, _⟩ := hF 0 v.f[0] (List.getElem?_eq_getElem (by omega))
    -- a choice of cells for each field
    have key : ∀ (k : Nat), k ≤ v.f.length → ∃ O : List FC, O.map (·.1) = v.f.take k ∧ flatO O = cur.toList.take (k * 6) ∧ ∀ o ∈ O, ∃ m', bf < m' ∧ o.1.1.size ≤ maxLen ∧ RepG e m' w o.1.2 o.2 := by
      intro k
      induction k with
      | zero => intro _; exact ⟨[], by simp, by simp [flatO], by simp⟩
      | succ k ih =>
        intro hk
        obtain ⟨O, h1, h2, h3⟩ := ih (by omega)
        obtain ⟨c, _, hbl, hz, hn, hcc, hr⟩ := hF k v.f[k] (List.getElem?_eq_getElem (by omega))
        refine ⟨O ++ [(v.f[k], c)], ?_, ?_, ?_⟩
        · rw [List.map_append, h1, List.take_succ_eq_append_getElem (by omega)]; rfl
        · rw [flatO_append, h2, flatO_one]
          have hl := rep_len hr.rep
          have cell : ∀ j, cur.toList[j]? = w.cell? ⟨bf, j, none⟩ := fun j => by rw [cell_of_row w bf j cur _ _ hcur]; simp
          apply List.ext_getElem?
          intro p
          have hcl : cur.toList.length = cf * 6 := by simpa using hsz
          by_cases hp : p < k * 6
          · rw [List.getElem?_append_left (by rw [List.length_take]; omega), List.getElem?_take, if_pos hp, List.getElem?_take, if_pos (by omega)]
          · rw [List.getElem?_append_right (by rw [List.length_take]; omega), List.length_take, Nat.min_eq_left (by omega)]
            by_cases hp2 : p < (k + 1) * 6
            · rw [List.getElem?_take, if_pos hp2, cell]
              unfold FC.cells
              by_cases hp3 : p = k * 6
              · subst hp3; simp [hn]
              · obtain ⟨q, hq⟩ : ∃ q, p = k * 6 + 1 + q := ⟨p - k * 6 - 1, by omega⟩
                subst hq
                rw [show k * 6 + 1 + q - k * 6 = q + 1 by omega, List.getElem?_cons_succ]
                have : q < c.length := by omega
                rw [List.getElem?_eq_getElem this]
                exact (hcc q _ (List.getElem?_eq_getElem this)).symm
            · rw [List.getElem?_eq_none (by unfold FC.cells; simp [hl]; omega), List.getElem?_eq_none (by rw [List.length_take]; omega)]
        · intro o ho
          rcases List.mem_append.1 ho with ho | ho
          · exact h3 o ho
          · rw [List.mem_singleton.1 ho]; exact ⟨max bl bf + 1, by omega, hz, hr⟩
    obtain ⟨O, h1, h2, h3⟩ := key v.f.length (Nat.le_refl _)
    refine ⟨O, by rw [h1, List.take_length], ?_, fun o ho => ?_, fun W hs hW o ho => ?_⟩
    · rw [ha]
      exact ⟨by rw [h2, List.length_take]; simp only [Array.length_toList, hsz]; omega, .inr ⟨bf, cf, cur, rfl, hmf, hcur, hle, hmx, hsz, h2.symm⟩⟩
    · obtain ⟨m', _, hz, hr⟩ := h3 o ho
      exact ⟨hz, hr.rep⟩
    · obtain ⟨m', hm', hz, hr⟩ := h3 o ho
      refine ⟨hz, (hr.same hs (fun b hb hl => hW b (by omega) hl ?_)).rep⟩
      rw [ha]; simp [Value.ownBlock]; omega
end Go.Proofs.YtflcibmjblioaaaGreatDoor
