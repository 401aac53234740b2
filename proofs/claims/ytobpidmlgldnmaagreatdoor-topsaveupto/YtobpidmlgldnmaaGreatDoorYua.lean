/-
  Joined: Ys, Yu, Yua.
-/
import Derived.Test.YtobpidmlgldnmaaGreatDoorVe1
import Derived.Deep.RegionHeld3
import Derived.Test.YtobpidmlgldnmaaGreatDoorYt

/-
  The program's reader: the search among fields.
-/
namespace Go.Proofs.YtobpidmlgldnmaaGreatDoor
open Go.RowKit
set_option maxRecDepth 100000
theorem cell_keep {W W' : World} (hb : Below W.heap.size W W') {b o : Nat} (h : b < W.heap.size) {u : Value} (g : W.cell? ⟨b, o, none⟩ = some u) : W'.cell? ⟨b, o, none⟩ = some u := (hb.cell (p := ⟨b, o, none⟩) h).trans g
theorem twelve {W W' : World} {b c o0 o1 o2 o3 o4 o5 p0 p1 p2 p3 p4 p5 : Nat} {x0 x1 x2 x3 x4 x5 y0 y1 y2 y3 y4 y5 : Value} (h : (W.cell? ⟨b, o0, none⟩ = some x0 ∧ W.cell? ⟨b, o1, none⟩ = some x1 ∧ W.cell? ⟨b, o2, none⟩ = some x2 ∧ W.cell? ⟨b, o3, none⟩ = some x3 ∧ W.cell? ⟨b, o4, none⟩ = some x4 ∧ W.cell? ⟨b, o5, none⟩ = some x5) ∧ (W.cell? ⟨c, p0, none⟩ = some y0 ∧ W.cell? ⟨c, p1, none⟩ = some y1 ∧ W.cell? ⟨c, p2, none⟩ = some y2 ∧ W.cell? ⟨c, p3, none⟩ = some y3 ∧ W.cell? ⟨c, p4, none⟩ = some y4 ∧ W.cell? ⟨c, p5, none⟩ = some y5))
    (hb : Below W.heap.size W W') (h1 : b < W.heap.size) (h2 : c < W.heap.size) : (W'.cell? ⟨b, o0, none⟩ = some x0 ∧ W'.cell? ⟨b, o1, none⟩ = some x1 ∧ W'.cell? ⟨b, o2, none⟩ = some x2 ∧ W'.cell? ⟨b, o3, none⟩ = some x3 ∧ W'.cell? ⟨b, o4, none⟩ = some x4 ∧ W'.cell? ⟨b, o5, none⟩ = some x5) ∧ (W'.cell? ⟨c, p0, none⟩ = some y0 ∧ W'.cell? ⟨c, p1, none⟩ = some y1 ∧ W'.cell? ⟨c, p2, none⟩ = some y2 ∧ W'.cell? ⟨c, p3, none⟩ = some y3 ∧ W'.cell? ⟨c, p4, none⟩ = some y4 ∧ W'.cell? ⟨c, p5, none⟩ = some y5) := by
  obtain ⟨⟨a0, a1, a2, a3, a4, a5⟩, b0, b1, b2, b3, b4, b5⟩ := h
  exact ⟨⟨cell_keep hb h1 a0, cell_keep hb h1 a1, cell_keep hb h1 a2, cell_keep hb h1 a3, cell_keep hb h1 a4, cell_keep hb h1 a5⟩, cell_keep hb h2 b0, cell_keep hb h2 b1, cell_keep hb h2 b2, cell_keep hb h2 b3, cell_keep hb h2 b4, cell_keep hb h2 b5⟩
set_option maxHeartbeats 4000000 in
theorem search_says {d : Nat} {w : World} (name : ByteArray) (y1 y2 y3 y4 y5 : Value) (l : List (ByteArray × V)) (al : Option Addr) (cl : Nat) (hl : l.length ≤ 1000) (hL : FAt d w l al) (hp : l.Pairwise fun p q => Lt p.1 q.1) (_h1 : ∀ u ∈ [y1, y2, y3, y4, y5], u.oneCell' = true) :
    Calls Tryz.prog 116 #[.slice al l.length cl, .agg #[.string name, y1, y2, y3, y4, y5], .func (.func 117) #[] #[]] w fun e w' => (∃ t b, e = .returned (.tuple #[.int .i64 (t : Nat), .bool b]) ∧ FoundAt name l t b) ∧ Below w.heap.size w w' := by
  have HL := hid hL
  have HP := hid hp
  clear hL hp
  go_enter Tryz.func116, Tryz.ntmps116
  go_wp2_with fail
  have hA0 : At (w.alloc (.cells #[.string name, y1, y2, y3, y4, y5] 111)) w.heap.size 111 #[.string name, y1, y2, y3, y4, y5] := At.new _ _ _ rfl
  have hB0 : Below w.heap.size w (w.alloc (.cells #[.string name, y1, y2, y3, y4, y5] 111)) := below_box _ _
  generalize w.alloc (.cells #[.string name, y1, y2, y3, y4, y5] 111) = w0 at hA0 hB0 ⊢
  have hz0 := hA0.lt
  have HA0 := hid hA0
  have HB0 := hid hB0
  clear hA0 hB0
  go_loopw [9, 10] (fun iv jv wr => ∃ i j : Nat, iv = .int .i64 i ∧ jv = .int .i64 j ∧ i ≤ j ∧ j ≤ l.length ∧ Hid (∀ (k : Nat) (q : ByteArray × V), k < i → l[k]? = some q → Lt q.1 name) ∧ Hid (∀ (k : Nat) (q : ByteArray × V), j ≤ k → l[k]? = some q → ¬ Lt q.1 name) ∧ Below w0.heap.size w0 wr) (fun iv jv _ => (intOf jv).toNat - (intOf iv).toNat)
  case atStart => exact ⟨0, l.length, rfl, rfl, Nat.zero_le _, Nat.le_refl _, hid (fun k q hk => by omega), hid (fun k q hk hq => by have := (List.getElem?_eq_some_iff.1 hq).1; omega), Below.refl _ _⟩
  case round =>
    obtain ⟨i, j, rfl, rfl, hij, hjl, HLO, HHI, hK⟩ := hrel
    have hA := HA0.out.later hK
    obtain ⟨⟨t0, t1, t2, t3, t4, t5⟩, _⟩ := six_cells hA
    by_cases hlt : i < j
    · have hlt' : (i : Int) < j := by omega
      obtain ⟨h, hh⟩ : ∃ h, h = (i + j) / 2 := ⟨_, rfl⟩
      have hhl : h < l.length := by omega
      obtain ⟨b, off, c, rfl, hbl, _, hcn, hc, hr⟩ := HL.out h l[h] (List.getElem?_eq_getElem hhl)
      have hB1 : Below w.heap.size w wr := HB0.out.trans (hK.mono (Nat.le_of_lt hz0))
      obtain ⟨k1, n1, s1, a1, l1, c1, a2, l2, c2, rfl, g0, g1, g2, g3, g4⟩ := rep_cells (hr.later hB1) (hc.later hbl hB1)
      have gn := (hB1.cell (p := ⟨b, off + h * 6, none⟩) hbl).trans hcn
      clear hr hc hcn
      have he : ((i : Int) + (j : Int)) / 2 = (h : Int) := by omega
      have HH := hid hh
      clear hh
      have HG := hid (List.getElem?_eq_getElem hhl)
      by_cases hc : Lt l[h].1 name
      · have hneg : cmpB l[h].1 name < 0 := cmpB_neg.2 hc
        have HC := hid hc
        clear hc
        have HK := hid hK
        clear hK hA hB1
        go_wp2
        go_region_with (go_at_call 117; refine (byName_says _ _ _ _ _ _ _ _ _ _ _ _ _).mono ?_; rintro e w1 ⟨rfl, hb1⟩)
        all_goals
          have hb2 := below_undrew hb1
          go_wp2
          go_roundw
          case rel =>
            refine ⟨h + 1, j, by go_num, rfl, by have := HH.out; omega, hjl, hid (fun k q hk hq => ?_), HHI, HK.out.trans (hb2.mono HK.out.size)⟩
            by_cases hkh : k = h
            · rw [hkh, HG.out] at hq; cases hq; exact HC.out
            · exact (rises_at HP.out (by omega) hq HG.out).trans HC.out
          case measure => have := HH.out; simp [intOf]; omega
      · have hneg : ¬ cmpB l[h].1 name < 0 := fun q => hc (cmpB_neg.1 q)
        have HC := hid hc
        clear hc
        have HK := hid hK
        clear hK hA hB1
        go_wp2
        go_region_with (go_at_call 117; refine (byName_says _ _ _ _ _ _ _ _ _ _ _ _ _).mono ?_; rintro e w1 ⟨rfl, hb1⟩)
        all_goals
          have hb2 := below_undrew hb1
          go_wp2
          go_roundw
          case rel =>
            refine ⟨i, h, rfl, by go_num, by have := HH.out; omega, by omega, HLO, hid (fun k q hk hq => ?_), HK.out.trans (hb2.mono HK.out.size)⟩
            by_cases hkh : k = h
            · rw [hkh, HG.out] at hq; cases hq; exact HC.out
            · exact fun hh => HC.out ((rises_at HP.out (by omega) HG.out hq).trans hh)
          case measure => have := HH.out; simp [intOf]; omega
    · have hij2 : i = j := by omega
      subst hij2
      have hlt' : ¬ (i : Int) < i := by omega
      have hB1 : Below w.heap.size w wr := HB0.out.trans (hK.mono (Nat.le_of_lt hz0))
      by_cases hil : i < l.length
      · have hil' : (i : Int) < l.length := by omega
        have hd : decide ((i : Int) < (l.length : Int)) = true := decide_eq_true hil'
        obtain ⟨b, off, c, rfl, hbl, _, hcn, hc, hr⟩ := HL.out i l[i] (List.getElem?_eq_getElem hil)
        obtain ⟨k1, n1, s1, a1, l1, c1, a2, l2, c2, rfl, g0, g1, g2, g3, g4⟩ := rep_cells (hr.later hB1) (hc.later hbl hB1)
        have gn := (hB1.cell (p := ⟨b, off + i * 6, none⟩) hbl).trans hcn
        clear hr hc hcn
        have HG := hid (List.getElem?_eq_getElem hil)
        have HZ := hid (cmpB_zero (x := l[i].1) (y := name))
        have HK := hid (hB1)
        have HLW := hid (show w.heap.size < wr.heap.size from hA.lt)
        clear hK hA hB1
        have hby := fun (u1 u2 u3 u4 u5 v1 v2 v3 v4 v5 : Value) (w : World) => byName_says l[i].1 name u1 u2 u3 u4 u5 v1 v2 v3 v4 v5 w
        generalize cmpB l[i].1 name = z at HZ hby
        have HS0 := hid (show (wr.cell? ⟨b, off + i * 6, none⟩ = some (.string l[i].1) ∧ wr.cell? ⟨b, off + i * 6 + 1, none⟩ = some (.int .i64 k1) ∧ wr.cell? ⟨b, off + i * 6 + 1 + 1, none⟩ = some (.int .i64 n1) ∧ wr.cell? ⟨b, off + i * 6 + 1 + 2, none⟩ = some (.string s1) ∧ wr.cell? ⟨b, off + i * 6 + 1 + 3, none⟩ = some (.slice a1 l1 c1) ∧ wr.cell? ⟨b, off + i * 6 + 1 + 4, none⟩ = some (.slice a2 l2 c2)) ∧ (wr.cell? ⟨w.heap.size, 0, none⟩ = some (.string name) ∧ wr.cell? ⟨w.heap.size, 1, none⟩ = some y1 ∧ wr.cell? ⟨w.heap.size, 2, none⟩ = some y2 ∧ wr.cell? ⟨w.heap.size, 3, none⟩ = some y3 ∧ wr.cell? ⟨w.heap.size, 4, none⟩ = some y4 ∧ wr.cell? ⟨w.heap.size, 5, none⟩ = some y5) from ⟨⟨gn, g0, g1, g2, g3, g4⟩, t0, t1, t2, t3, t4, t5⟩)
        have HLT := hid (show b < wr.heap.size ∧ w.heap.size < wr.heap.size from ⟨Nat.lt_of_lt_of_le hbl HK.out.size, HLW.out⟩)
        by_cases hz : z = 0
        · subst hz
          go_wp2_with fail
          go_region_held3 (fun (w' : World) => (w'.cell? ⟨b, off + i * 6, none⟩ = some (.string l[i].1) ∧ w'.cell? ⟨b, off + i * 6 + 1, none⟩ = some (.int .i64 k1) ∧ w'.cell? ⟨b, off + i * 6 + 1 + 1, none⟩ = some (.int .i64 n1) ∧ w'.cell? ⟨b, off + i * 6 + 1 + 2, none⟩ = some (.string s1) ∧ w'.cell? ⟨b, off + i * 6 + 1 + 3, none⟩ = some (.slice a1 l1 c1) ∧ w'.cell? ⟨b, off + i * 6 + 1 + 4, none⟩ = some (.slice a2 l2 c2)) ∧ (w'.cell? ⟨w.heap.size, 0, none⟩ = some (.string name) ∧ w'.cell? ⟨w.heap.size, 1, none⟩ = some y1 ∧ w'.cell? ⟨w.heap.size, 2, none⟩ = some y2 ∧ w'.cell? ⟨w.heap.size, 3, none⟩ = some y3 ∧ w'.cell? ⟨w.heap.size, 4, none⟩ = some y4 ∧ w'.cell? ⟨w.heap.size, 5, none⟩ = some y5))
            (first | exact HS1.out | exact HS0.out | go_keep)
            ((go_at_call 117; refine (hby _ _ _ _ _ _ _ _ _ _ _).mono ?_; rintro e w1 ⟨rfl, hb1⟩; (have hb2 := below_undrew hb1); (have HS1 := hid (twelve HS0.out hb2 HLT.out.1 HLT.out.2))))
          all_goals
            go_wp2
            go_ret2
            exact ⟨⟨i, true, rfl, ⟨by omega, HLO.out, HHI.out, ⟨fun _ => ⟨_, HG.out, HZ.out.1 (by first | rfl | trivial)⟩, fun _ => rfl⟩⟩⟩, HK.out.trans (hb2.mono HK.out.size)⟩
        · have hz' : (z == 0) = false := by simpa using hz
          go_wp2_with fail
          go_region_held3 (fun (w' : World) => (w'.cell? ⟨b, off + i * 6, none⟩ = some (.string l[i].1) ∧ w'.cell? ⟨b, off + i * 6 + 1, none⟩ = some (.int .i64 k1) ∧ w'.cell? ⟨b, off + i * 6 + 1 + 1, none⟩ = some (.int .i64 n1) ∧ w'.cell? ⟨b, off + i * 6 + 1 + 2, none⟩ = some (.string s1) ∧ w'.cell? ⟨b, off + i * 6 + 1 + 3, none⟩ = some (.slice a1 l1 c1) ∧ w'.cell? ⟨b, off + i * 6 + 1 + 4, none⟩ = some (.slice a2 l2 c2)) ∧ (w'.cell? ⟨w.heap.size, 0, none⟩ = some (.string name) ∧ w'.cell? ⟨w.heap.size, 1, none⟩ = some y1 ∧ w'.cell? ⟨w.heap.size, 2, none⟩ = some y2 ∧ w'.cell? ⟨w.heap.size, 3, none⟩ = some y3 ∧ w'.cell? ⟨w.heap.size, 4, none⟩ = some y4 ∧ w'.cell? ⟨w.heap.size, 5, none⟩ = some y5))
            (first | exact HS1.out | exact HS0.out | go_keep)
            ((go_at_call 117; refine (hby _ _ _ _ _ _ _ _ _ _ _).mono ?_; rintro e w1 ⟨rfl, hb1⟩; (have hb2 := below_undrew hb1); (have HS1 := hid (twelve HS0.out hb2 HLT.out.1 HLT.out.2))))
          all_goals
            go_wp2
            go_ret2
            refine ⟨⟨i, false, rfl, ⟨by omega, HLO.out, HHI.out, ⟨fun h => (by cases h), fun h => ?_⟩⟩⟩, HK.out.trans (hb2.mono HK.out.size)⟩
            obtain ⟨q, hq, hn⟩ := h
            rw [HG.out] at hq
            cases hq
            exact absurd (HZ.out.2 hn) hz
      · have hil' : ¬ (i : Int) < l.length := by omega
        have hd : decide ((i : Int) < (l.length : Int)) = false := decide_eq_false hil'
        go_wp2_with fail
        go_quiet (fail)
        go_wp2
        go_ret2
        refine ⟨⟨i, false, rfl, ⟨by omega, HLO.out, HHI.out, ⟨fun h => (by cases h), fun h => ?_⟩⟩⟩, ?_⟩
        · obtain ⟨q, hq, hn⟩ := h
          have := (List.getElem?_eq_some_iff.1 hq).1
          omega
        · exact below_drewN hB1 _
end Go.Proofs.YtobpidmlgldnmaaGreatDoor

/-
  The program's reader: dictionaries.
-/
namespace Go.Proofs.YtobpidmlgldnmaaGreatDoor
open Go.RowKit
set_option maxRecDepth 100000

def lenAt4 (b : Nat) (w : World) : Nat := match w.cell? ⟨b, 4, none⟩ with | some (.slice _ n _) => n | _ => 0
theorem lenAt4_at {w : World} {b : Nat} {T : TypeId} {v0 v1 v2 v3 : Value} {a : Option Addr} {n c : Nat} (h : At w b T #[v0, v1, v2, v3, .slice a n c]) : lenAt4 b w = n := by
  have h3 : w.cell? ⟨b, 4, none⟩ = some (.slice a n c) := At.cell h 4
  unfold lenAt4; rw [h3]
theorem own_slice6 {w : World} {B : Nat} {t : Value} {n : Nat} {xs : List Value} (h : w.ownsRow B 111 6 t n xs) : ∃ a c, t = .slice a n c := by
  rcases h.2 with ⟨rfl, h0⟩ | ⟨g, cap, cur, rfl, _⟩
  · exact ⟨none, 0, by rw [h0]⟩
  · exact ⟨_, cap, rfl⟩
theorem endsR_to2 {s : ByteArray} {k : Nat} (hk : k ≤ s.size) {x : Int} {y : Bool} {z : Nat} (h : endsR s wEnd2 k = (x, y, z)) : z ≤ s.size := by
  have hl := skipP_le hk
  unfold endsR at h
  split at h
  · injection h with h1 h2; injection h2 with _ h3; omega
  · split at h
    · rename_i hp
      have h4 : wEnd2.data.toList.length ≤ (s.data.toList.drop (skipP s k)).length := by
        have : wEnd2.data.toList <+: s.data.toList.drop (skipP s k) := List.isPrefixOf_iff_prefix.1 hp
        exact this.length_le
      have h5 : wEnd2.data.toList.length = 2 := rfl
      have h6 : wEnd2.size = 2 := rfl
      rw [List.length_drop] at h4
      simp only [Array.length_toList, ByteArray.size_data] at h4
      injection h with _ h2; injection h2 with _ h3; omega
    · injection h with _ h2; injection h2 with _ h3; omega
theorem endsR_lt {s p : ByteArray} {k : Nat} (hk : k ≤ s.size) {z : Nat} (h : endsR s p k = (0, false, z)) : z < s.size := by
  have hl := skipP_le hk
  unfold endsR at h
  split at h
  · injection h with h1 h2; exact absurd h1 (by decide)
  · split at h
    · injection h with _ h2; injection h2 with h3 _; cases h3
    · rename_i h0 _
      injection h with _ h2; injection h2 with _ h3; omega
theorem Dicted.vkept {P : Nat} {w b w2 : World} {s : ByteArray} {i d : Nat} {t : Value} {O : List FC} (h : Dicted P w b s i d t O) (hg : b.grownBy w2 t.ownBlock) :
    At w2 (w.heap.size + 1) 38 #[.int .i64 6, .int .i64 0, .string ⟨#[]⟩, .slice none 0 0, t] ∧ At w2 w.heap.size 38 (vc 0 0 ⟨#[]⟩) := by
  have hs := h.size
  have same : ∀ k, k < w.heap.size + 2 → w2.heap[k]? = b.heap[k]? := fun k hk =>
    hg.block k (by omega) (fun e => by have := (h.own.lt k e.symm).1; omega)
  exact ⟨(same _ (by omega)).trans h.vbox, (same _ (by omega)).trans h.box⟩
/-- The search, where the fields lie in a row that the reader owns. -/
theorem dSearch {P : Nat} {w a : World} {s : ByteArray} {j d : Nat} {al : Option Addr} {cl : Nat} {O : List FC} (name : ByteArray) (y1 y2 y3 y4 y5 : Value) (r : Bool) (hO : O.length ≤ 300) (hp : (O.map (·.1)).Pairwise fun p q => Lt p.1 q.1) (hr : (getF name (O.map (·.1))).isSome = r) (h1 : ∀ u ∈ [y1, y2, y3, y4, y5], u.oneCell' = true)
    (h : Dicted P w a s j d (.slice al O.length cl) O) :
    Calls Tryz.prog 116 #[.slice al O.length cl, .agg #[.string name, y1, y2, y3, y4, y5], .func (.func 117) #[] #[]] a fun e w' => (∃ t : Nat, e = .returned (.tuple #[.int .i64 (t : Nat), .bool r]) ∧ Hid (FoundAt name (O.map (·.1)) t r)) ∧ Below a.heap.size a w' := by
  obtain ⟨af, cf, he, hF⟩ := h.slice
  cases he
  have q := search_says (w := a) name y1 y2 y3 y4 y5 (O.map (·.1)) al cl (by simp; omega) hF hp h1
  rw [List.length_map] at q
  refine q.mono ?_
  rintro e w' ⟨⟨t, b, rfl, hf⟩, hb⟩
  have := hf.getF hp
  rw [hr] at this
  subst this
  exact ⟨⟨t, rfl, hid hf⟩, hb⟩
/-- The row with a field laid in. -/
theorem ins_flat {O : List FC} {t : Nat} {o : FC} {d : Nat} {w : World} (hk : ∀ o ∈ O, o.ok d w) : (flatO O).take (t * 6) ++ o.cells ++ (flatO O).drop (t * 6) = flatO (O.take t ++ o :: O.drop t) := by
  rw [flatO_takeL t fun o ho => FC.len (hk o ho), flatO_dropL t fun o ho => FC.len (hk o ho), flatO_append, show flatO (o :: O.drop t) = o.cells ++ flatO (O.drop t) from by simp [flatO], List.append_assoc]
theorem flat_ones {O : List FC} {d : Nat} {w : World} (hk : ∀ o ∈ O, o.ok d w) : ∀ u ∈ flatO O, u.oneCell' = true := by
  intro u hu
  obtain ⟨o, ho, hu⟩ := List.mem_flatMap.1 hu
  rcases List.mem_cons.1 hu with rfl | hu
  · rfl
  · have := rep_ones (hk o ho).2
    simp only [List.all_toArray, List.all_eq_true] at this
    exact this u hu
/-- The row takes a field in. -/
theorem dInsert {P : Nat} {w a : World} {s : ByteArray} {j d : Nat} {al : Option Addr} {cl t : Nat} {O : List FC} (x : V) (name : ByteArray) (y1 y2 y3 y4 y5 : Value) (hO : O.length ≤ 300) (ht : t ≤ O.length) (h1 : ∀ u ∈ [y1, y2, y3, y4, y5], u.oneCell' = true)
    (h : Dicted P w a s j d (.slice al O.length cl) O) (hx : name.size ≤ 200 ∧ RepIn (Room (w.heap.size + 2) a (.slice al O.length cl)) d a x [y1, y2, y3, y4, y5]) :
    Calls Tryz.prog 118 #[.slice al O.length cl, .int .i64 (t : Nat), .slice (some ⟨a.heap.size, 0, none⟩) 1 1] (a.alloc (.cells #[.string name, y1, y2, y3, y4, y5] 111)) fun e w2 => ∃ a' c', e = .returned (.slice a' (O.length + 1) c') ∧
      At w2 (w.heap.size + 1) 38 #[.int .i64 6, .int .i64 0, .string ⟨#[]⟩, .slice none 0 0, .slice al O.length cl] ∧ At w2 w.heap.size 38 (vc 0 0 ⟨#[]⟩) ∧
      Hid (Dicted P w (w2.setCell ⟨w.heap.size + 1, 4, none⟩ (.slice a' (O.length + 1) c')) s j d (.slice a' (O.length + 1) c') (O.take t ++ ((name, x), [y1, y2, y3, y4, y5]) :: O.drop t)) := by
  have hA := h.below (below_box a (.cells #[.string name, y1, y2, y3, y4, y5] 111))
  have hx' := hx.2
  have hsz := h.size
  refine (insertAt_says (i := t) hA.own (by have := hA.size; omega) (by omega) ht a.heap.size (.string name) y1 y2 y3 y4 y5 (At.new a _ _ rfl) (fun e => by have := (h.own.lt _ e).2; omega) (fun u hu => by
    rcases List.mem_cons.1 hu with rfl | hu
    · rfl
    · exact h1 u hu) (flat_ones hA.ok)).mono ?_
  rintro e w2 ⟨v', rfl, hown, hg, hat⟩
  obtain ⟨a', c', rfl⟩ := own_slice6 hown
  have hl : (O.take t ++ ((name, x), [y1, y2, y3, y4, y5]) :: O.drop t).length = O.length + 1 := by simp; omega
  have hfl := ins_flat (t := t) (o := ((name, x), [y1, y2, y3, y4, y5])) hA.ok
  have e6 : FC.cells ((name, x), [y1, y2, y3, y4, y5]) = [.string name, y1, y2, y3, y4, y5] := rfl
  rw [e6] at hfl
  rw [hfl] at hown
  have hown' : w2.ownsRow (w.heap.size + 2) 111 6 (.slice a' (O.length + 1) c') (O.take t ++ ((name, x), [y1, y2, y3, y4, y5]) :: O.drop t).length (flatO (O.take t ++ ((name, x), [y1, y2, y3, y4, y5]) :: O.drop t)) := by rw [hl]; exact hown
  obtain ⟨k1, k2⟩ := hA.vkept hg
  refine ⟨a', c', rfl, k1, k2, hid ?_⟩
  have g := hA.grow (o := ((name, x), [y1, y2, y3, y4, y5])) (O' := O.take t ++ ((name, x), [y1, y2, y3, y4, y5]) :: O.drop t) ⟨hx.1, (hx'.agree (by simp) fun k hk => heap_alloc_old _ _ hk.2.1).mono fun k hk => ⟨hk.1, by have := hk.2.1; simp; omega, hk.2.2⟩⟩ (fun p hp => by
    rcases List.mem_append.1 hp with h1 | h1
    · exact .inl (List.mem_of_mem_take h1)
    · rcases List.mem_cons.1 h1 with rfl | h1
      · exact .inr rfl
      · exact .inl (List.mem_of_mem_drop h1)) hown' hg hat
  exact g
end Go.Proofs.YtobpidmlgldnmaaGreatDoor

/-
  The program's reader: dictionaries, whole.
-/
namespace Go.Proofs.YtobpidmlgldnmaaGreatDoor
open Go.RowKit
set_option maxRecDepth 100000

set_option maxHeartbeats 8000000 in
theorem yDict (m : Int) (P : Nat) (s : ByteArray) (k d : Nat) (deep : Int) (f : Nat → Rd) (w : World) (hE : Env m P w) (hR : RdAt w P s k) (hk : k + 2 ≤ s.size) (hs : s.size ≤ 100000) (hd : 0 ≤ deep ∧ deep ≤ 8)
    (hval : ∀ (w : World) (j : Nat), Env m P w → RdAt w P s j → j ≤ s.size → Calls Tryz.prog 80 #[.pointer (some ⟨P, 0, none⟩), .int .i64 (deep + 1)] w (Said P w s d (f j))) :
    Calls Tryz.prog 95 #[.pointer (some ⟨P, 0, none⟩), .int .i64 deep] w (Said P w s (d + 1) (⟨6, 0, eB, [], (rdD f s 302 [] (k + 2)).1⟩, (rdD f s 302 [] (k + 2)).2.1, (rdD f s 302 [] (k + 2)).2.2)) := by
  have hPl : P < w.heap.size := At.lt hR
  have c1 := hR.c1
  have f1 := At.free hR 1
  have hm0 := (Moved.refl hR).set (i := (k : Int) + 2) (j := k + 2) (by omega)
  obtain ⟨R, hRR⟩ : ∃ R, rdD f s 302 [] (k + 2) = R := ⟨_, rfl⟩
  rw [hRR]
  have HR0 := hid hRR
  clear hRR
  have HV := hid hval
  clear hval
  go_enter Tryz.func95, Tryz.ntmps95
  go_wp2
  go_loopw [7] (fun _ wr => ∃ (j : Nat) (t : Value) (O : List FC), j ≤ s.size ∧ O.length ≤ 300 ∧ Hid ((O.map (·.1)).Pairwise fun p q => Lt p.1 q.1) ∧ rdD f s (302 - O.length) (O.map (·.1)) j = R ∧ Dicted P w wr s j d t O) (fun _ wr => 302 - lenAt4 (w.heap.size + 1) wr)
  case atStart =>
    refine ⟨k + 2, .slice none 0 0, [], by omega, by simp, hid List.Pairwise.nil, HR0.out, ?_, hPl, ?_, ?_, World.ownsRow_nil _ _ _ _, by simp⟩
    · exact (hm0.below hPl ((Below.refl _ _).alloc (by simp [World.setCell]) _)).below hPl ((Below.refl _ _).alloc (by simp [World.setCell]) _)
    · exact (At.new _ _ _ (by simp [World.setCell])).alloc _
    · exact At.new _ _ _ (by simp [World.setCell])
  case round =>
    clear HR0 hm0 c1 f1
    obtain ⟨j, t, O, hj, hO, HP, hT, hW⟩ := hrel
    have HT := hid hT
    clear hT
    have hWs := hW.size
    obtain ⟨a, c, rfl⟩ := own_slice6 hW.own
    obtain ⟨ex, ey, ez, hes⟩ : ∃ x y z, endsR s wEnd2 j = (x, y, z) := ⟨_, _, _, rfl⟩
    have hez := endsR_to2 hj hes
    have HU := hid (show (if ex ≠ 0 then ([], ex, j) else if ey then (O.map (·.1), 0, ez) else if (rdFd f s ez).2.1 ≠ 0 then ([], (rdFd f s ez).2.1, j) else if (getF (rdFd f s ez).1.1 (O.map (·.1))).isSome then ([], 3, j) else if 300 < (O.map (·.1)).length + 1 then ([], 2, j) else rdD f s (302 - O.length - 1) (rsetF (rdFd f s ez).1.1 (rdFd f s ez).1.2 (O.map (·.1)) false) (rdFd f s ez).2.2) = R by
      rw [← HT.out, show 302 - O.length = 302 - O.length - 1 + 1 by omega, rdD_step hes]; rfl)
    clear HT
    have hends := fun (w : World) (h : RdAt w P s j) => yEndsN P s wEnd2 j w h hj hs (by decide) hes
    have HES := hid hes
    clear hes
    by_cases hx : ex = 0
    · subst hx
      rw [errN_0] at hends
      cases ey
      · have HU2 := hid (show (if (rdFd f s ez).2.1 ≠ 0 then ([], (rdFd f s ez).2.1, j) else if (getF (rdFd f s ez).1.1 (O.map (·.1))).isSome then ([], 3, j) else if 300 < (O.map (·.1)).length + 1 then ([], 2, j) else rdD f s (302 - O.length - 1) (rsetF (rdFd f s ez).1.1 (rdFd f s ez).1.2 (O.map (·.1)) false) (rdFd f s ez).2.2) = R by have h := HU.out; rw [if_neg (by simp), if_neg (by simp)] at h; exact h)
        clear HU
        have hv := fun (w : World) (h1 : Env m P w) (h2 : RdAt w P s ez) => yField m P s ez d (deep + 1) f w h1 h2 (endsR_lt hj HES.out) hs HV.out
        have HNM := hid (rdFd_name (f := f) (s := s) (k := ez))
        generalize rdFd f s ez = r at hv HU2 HNM
        obtain ⟨⟨nm, x⟩, e1, z1⟩ := r
        unfold SaidF at hv
        unfold wEnd2 at hends
        simp only at hv
        by_cases he : e1 = 0
        · subst he
          rw [errN_0] at hv
          have HNS := hid (nmOk_size (HNM.out rfl))
          cases hg : (getF nm (O.map (·.1))).isSome
          · have HG := hid hg
            by_cases hmany : O.length + 1 ≤ 300
            · have hm' : ¬ ((300 : Int) < (O.length : Int) + 1) := by omega
              have HRN := hid (show rdD f s (302 - O.length - 1) (rsetF nm x (O.map (·.1)) false) z1 = R by have h := HU2.out; rw [if_neg (by simp), if_neg (by simp only; rw [hg]; simp), if_neg (by simp; omega)] at h; exact h)
              clear HU2 hg
              go_wp2_with (first | (go_at_call 114; go_must (refine (hends _ hW.mov.at_).mono ?_); rintro e w1 ⟨rfl, hm1⟩; (have hW1 := hW.moved hm1); obtain ⟨⟨bx0, bx1, bx2, bx3, bx4⟩, fx0, fx1, fx2, fx3, fx4⟩ := five_cells hW1.box; obtain ⟨⟨vx0, vx1, vx2, vx3, vx4⟩, fv⟩ := hW1.cells) | (go_at_call 115; go_must (refine (hv _ (hW1.env hE) hm1.at_).mono ?_); rintro e w2 ⟨nm1, k1, n1, t1, a1, a2, l1, c1, l2, c2, J, rfl, hm2, HQ⟩; (have hW2 := hW1.moved hm2); (have hz2 := hW2.size); (have hWa := hW2.below (below_box w2 (.cells #[.string nm1, .int .i64 k1, .int .i64 n1, .string t1, .slice a1 l1 c1, .slice a2 l2 c2] 111))); obtain ⟨⟨by0, by1, by2, by3, by4⟩, fy0, fy1, fy2, fy3, fy4⟩ := five_cells hW2.box; obtain ⟨⟨vy0, vy1, vy2, vy3, vy4⟩, fvy⟩ := hW2.cells; obtain ⟨⟨ba0, ba1, ba2, ba3, ba4⟩, fa0, fa1, fa2, fa3, fa4⟩ := five_cells hWa.box; obtain ⟨⟨va0, va1, va2, va3, va4⟩, fva⟩ := hWa.cells) | (go_at_call 116; obtain ⟨hJ, hJs, hNm, hRep⟩ := HQ.out (by first | trivial | rfl); subst hNm; go_must (refine (dSearch nm1 _ _ _ _ _ false hO HP.out HG.out (by simp [Value.oneCell']) hWa).mono ?_); rintro e w3 ⟨⟨tt, rfl, HFND⟩, hb3⟩; (have hW3 := hWa.below hb3); obtain ⟨⟨bb0, bb1, bb2, bb3, bb4⟩, fb0, fb1, fb2, fb3, fb4⟩ := five_cells hW3.box; obtain ⟨⟨vb0, vb1, vb2, vb3, vb4⟩, fvb⟩ := hW3.cells; (have hFb := At.later (At.new w2 #[.string nm1, .int .i64 k1, .int .i64 n1, .string t1, .slice a1 l1 c1, .slice a2 l2 c2] 111 rfl) hb3); (have hFl := At.lt hFb); obtain ⟨⟨qb0, qb1, qb2, qb3, qb4, qb5⟩, _⟩ := six_cells hFb) | (go_at_call 118; go_must (refine (dInsert x nm1 _ _ _ _ _ hO (by have := HFND.out.le; simpa using this) (by simp [Value.oneCell']) hW3 ⟨HNS.out, hW1.fresh (Below.trans (below_box w2 _) (hb3.mono (by simp))) hRep⟩).mono ?_); rintro e w4 ⟨a', c', rfl, hA1, hA2, HY⟩; obtain ⟨⟨bz0, bz1, bz2, bz3, bz4⟩, fz0, fz1, fz2, fz3, fz4⟩ := five_cells hA2; obtain ⟨⟨vz0, vz1, vz2, vz3, vz4⟩, gz0, gz1, gz2, gz3, gz4⟩ := five_cells hA1))
              have hFD := HFND.out
              have hmap : (O.take tt ++ ((nm1, x), [.int .i64 k1, .int .i64 n1, .string t1, .slice a1 l1 c1, .slice a2 l2 c2]) :: O.drop tt).map (·.1) = (O.map (·.1)).take tt ++ (nm1, x) :: (O.map (·.1)).drop tt := by
                rw [List.map_append, List.map_cons, List.map_take, List.map_drop]
              have hl : (O.take tt ++ ((nm1, x), [.int .i64 k1, .int .i64 n1, .string t1, .slice a1 l1 c1, .slice a2 l2 c2]) :: O.drop tt).length = O.length + 1 := by
                have := hFD.le; simp at this; simp; omega
              refine ⟨⟨J, _, _, hJs, by rw [hl]; omega, hid (by rw [hmap]; exact hFD.rises HP.out x), ?_, HY.out⟩, ?_⟩
              · have h := HRN.out
                rw [← hJ, hFD.rset HP.out x, ← hmap] at h
                rw [hl, show 302 - (O.length + 1) = 302 - O.length - 1 by omega]
                exact h
              · rw [lenAt4_at HY.out.vbox, lenAt4_at hW.vbox]; omega
            · have hm' : (300 : Int) < (O.length : Int) + 1 := by omega
              have HRN := hid (show ([], 2, j) = R by have h := HU2.out; rw [if_neg (by simp), if_neg (by simp only; rw [hg]; simp), if_pos (by simp; omega)] at h; exact h)
              clear HU2 hg
              go_wp2_with (first | (go_at_call 114; go_must (refine (hends _ hW.mov.at_).mono ?_); rintro e w1 ⟨rfl, hm1⟩; (have hW1 := hW.moved hm1); obtain ⟨⟨bx0, bx1, bx2, bx3, bx4⟩, fx0, fx1, fx2, fx3, fx4⟩ := five_cells hW1.box; obtain ⟨⟨vx0, vx1, vx2, vx3, vx4⟩, fv⟩ := hW1.cells) | (go_at_call 115; go_must (refine (hv _ (hW1.env hE) hm1.at_).mono ?_); rintro e w2 ⟨nm1, k1, n1, t1, a1, a2, l1, c1, l2, c2, J, rfl, hm2, HQ⟩; (have hW2 := hW1.moved hm2); (have hz2 := hW2.size); (have hWa := hW2.below (below_box w2 (.cells #[.string nm1, .int .i64 k1, .int .i64 n1, .string t1, .slice a1 l1 c1, .slice a2 l2 c2] 111))); obtain ⟨⟨by0, by1, by2, by3, by4⟩, fy0, fy1, fy2, fy3, fy4⟩ := five_cells hW2.box; obtain ⟨⟨vy0, vy1, vy2, vy3, vy4⟩, fvy⟩ := hW2.cells; obtain ⟨⟨ba0, ba1, ba2, ba3, ba4⟩, fa0, fa1, fa2, fa3, fa4⟩ := five_cells hWa.box; obtain ⟨⟨va0, va1, va2, va3, va4⟩, fva⟩ := hWa.cells) | (go_at_call 116; obtain ⟨hJ, hJs, hNm, hRep⟩ := HQ.out (by first | trivial | rfl); subst hNm; go_must (refine (dSearch nm1 _ _ _ _ _ false hO HP.out HG.out (by simp [Value.oneCell']) hWa).mono ?_); rintro e w3 ⟨⟨tt, rfl, HFND⟩, hb3⟩; (have hW3 := hWa.below hb3); obtain ⟨⟨bb0, bb1, bb2, bb3, bb4⟩, fb0, fb1, fb2, fb3, fb4⟩ := five_cells hW3.box; obtain ⟨⟨vb0, vb1, vb2, vb3, vb4⟩, fvb⟩ := hW3.cells; (have hFb := At.later (At.new w2 #[.string nm1, .int .i64 k1, .int .i64 n1, .string t1, .slice a1 l1 c1, .slice a2 l2 c2] 111 rfl) hb3); (have hFl := At.lt hFb); obtain ⟨⟨qb0, qb1, qb2, qb3, qb4, qb5⟩, _⟩ := six_cells hFb) | (go_at_call 118; go_must (refine (dInsert x nm1 _ _ _ _ _ hO (by have := HFND.out.le; simpa using this) (by simp [Value.oneCell']) hW3 ⟨HNS.out, hW1.fresh (Below.trans (below_box w2 _) (hb3.mono (by simp))) hRep⟩).mono ?_); rintro e w4 ⟨a', c', rfl, hA1, hA2, HY⟩; obtain ⟨⟨bz0, bz1, bz2, bz3, bz4⟩, fz0, fz1, fz2, fz3, fz4⟩ := five_cells hA2; obtain ⟨⟨vz0, vz1, vz2, vz3, vz4⟩, gz0, gz1, gz2, gz3, gz4⟩ := five_cells hA1))
              obtain ⟨hM5, hB5, hP5⟩ := HY.out.fill (by have := HFND.out.le; simp at this; simp; omega) (.int .i64 0) (.int .i64 0) (.string ⟨#[]⟩) (.slice none 0 0) (.slice none 0 0) rfl
              unfold set5 at hM5 hB5 hP5
              generalize World.setCell _ _ _ = wf at hM5 hB5 hP5 ⊢
              obtain ⟨⟨cx0, cx1, cx2, cx3, cx4⟩, _⟩ := five_cells hB5
              refine bodyPost_ret (v := .tuple #[.agg #[.int .i64 0, .int .i64 0, .string ⟨#[]⟩, .slice none 0 0, .slice none 0 0], .iface 68 (.int .i64 2)]) (by simp [results, Tryz.results95, go_sem, cx0, cx1, cx2, cx3, cx4]; try first | exact ⟨rfl, rfl⟩ | rfl) rfl ?_
              rw [← HRN.out]
              exact ⟨0, 0, ⟨#[]⟩, none, none, 0, 0, 0, 0, _, rfl, hM5, hid (fun h => absurd (show (2 : Int) = 0 from h) (by decide))⟩
          · have HG := hid hg
            have HRN := hid (show ([], 3, j) = R by have h := HU2.out; rw [if_neg (by simp), if_pos (by simp only; exact hg)] at h; exact h)
            clear HU2 hg
            go_wp2_with (first | (go_at_call 114; go_must (refine (hends _ hW.mov.at_).mono ?_); rintro e w1 ⟨rfl, hm1⟩; (have hW1 := hW.moved hm1); obtain ⟨⟨bx0, bx1, bx2, bx3, bx4⟩, fx0, fx1, fx2, fx3, fx4⟩ := five_cells hW1.box; obtain ⟨⟨vx0, vx1, vx2, vx3, vx4⟩, fv⟩ := hW1.cells) | (go_at_call 115; go_must (refine (hv _ (hW1.env hE) hm1.at_).mono ?_); rintro e w2 ⟨nm1, k1, n1, t1, a1, a2, l1, c1, l2, c2, J, rfl, hm2, HQ⟩; (have hW2 := hW1.moved hm2); (have hz2 := hW2.size); (have hWa := hW2.below (below_box w2 (.cells #[.string nm1, .int .i64 k1, .int .i64 n1, .string t1, .slice a1 l1 c1, .slice a2 l2 c2] 111))); obtain ⟨⟨by0, by1, by2, by3, by4⟩, fy0, fy1, fy2, fy3, fy4⟩ := five_cells hW2.box; obtain ⟨⟨vy0, vy1, vy2, vy3, vy4⟩, fvy⟩ := hW2.cells; obtain ⟨⟨ba0, ba1, ba2, ba3, ba4⟩, fa0, fa1, fa2, fa3, fa4⟩ := five_cells hWa.box; obtain ⟨⟨va0, va1, va2, va3, va4⟩, fva⟩ := hWa.cells) | (go_at_call 116; obtain ⟨hJ, hJs, hNm, hRep⟩ := HQ.out (by first | trivial | rfl); subst hNm; go_must (refine (dSearch nm1 _ _ _ _ _ true hO HP.out HG.out (by simp [Value.oneCell']) hWa).mono ?_); rintro e w3 ⟨⟨tt, rfl, HFND⟩, hb3⟩; (have hW3 := hWa.below hb3); obtain ⟨⟨bb0, bb1, bb2, bb3, bb4⟩, fb0, fb1, fb2, fb3, fb4⟩ := five_cells hW3.box; obtain ⟨⟨vb0, vb1, vb2, vb3, vb4⟩, fvb⟩ := hW3.cells; (have hFb := At.later (At.new w2 #[.string nm1, .int .i64 k1, .int .i64 n1, .string t1, .slice a1 l1 c1, .slice a2 l2 c2] 111 rfl) hb3); (have hFl := At.lt hFb); obtain ⟨⟨qb0, qb1, qb2, qb3, qb4, qb5⟩, _⟩ := six_cells hFb))
            obtain ⟨hM5, hB5, hP5⟩ := hW3.fill (by omega) (.int .i64 0) (.int .i64 0) (.string ⟨#[]⟩) (.slice none 0 0) (.slice none 0 0) rfl
            unfold set5 at hM5 hB5 hP5
            generalize World.setCell _ _ _ = wf at hM5 hB5 hP5 ⊢
            obtain ⟨⟨cx0, cx1, cx2, cx3, cx4⟩, _⟩ := five_cells hB5
            refine bodyPost_ret (v := .tuple #[.agg #[.int .i64 0, .int .i64 0, .string ⟨#[]⟩, .slice none 0 0, .slice none 0 0], .iface 68 (.int .i64 3)]) (by simp [results, Tryz.results95, go_sem, cx0, cx1, cx2, cx3, cx4]; try first | exact ⟨rfl, rfl⟩ | rfl) rfl ?_
            rw [← HRN.out]
            exact ⟨0, 0, ⟨#[]⟩, none, none, 0, 0, 0, 0, _, rfl, hM5, hid (fun h => absurd (show (3 : Int) = 0 from h) (by decide))⟩
        · have HRN := hid (show ([], e1, j) = R by rw [← HU2.out, if_pos he])
          have HX := hid he
          rw [errN_pos he] at hv
          unfold errV at hv
          clear HU2 he
          go_wp2_with (first | (go_at_call 114; go_must (refine (hends _ hW.mov.at_).mono ?_); rintro e w1 ⟨rfl, hm1⟩; (have hW1 := hW.moved hm1); obtain ⟨⟨bx0, bx1, bx2, bx3, bx4⟩, fx0, fx1, fx2, fx3, fx4⟩ := five_cells hW1.box; obtain ⟨⟨vx0, vx1, vx2, vx3, vx4⟩, fv⟩ := hW1.cells) | (go_at_call 115; go_must (refine (hv _ (hW1.env hE) hm1.at_).mono ?_); rintro e w2 ⟨nm1, k1, n1, t1, a1, a2, l1, c1, l2, c2, J, rfl, hm2, HQ⟩; (have hW2 := hW1.moved hm2); (have hz2 := hW2.size); (have hWa := hW2.below (below_box w2 (.cells #[.string nm1, .int .i64 k1, .int .i64 n1, .string t1, .slice a1 l1 c1, .slice a2 l2 c2] 111))); obtain ⟨⟨by0, by1, by2, by3, by4⟩, fy0, fy1, fy2, fy3, fy4⟩ := five_cells hW2.box; obtain ⟨⟨vy0, vy1, vy2, vy3, vy4⟩, fvy⟩ := hW2.cells; obtain ⟨⟨ba0, ba1, ba2, ba3, ba4⟩, fa0, fa1, fa2, fa3, fa4⟩ := five_cells hWa.box; obtain ⟨⟨va0, va1, va2, va3, va4⟩, fva⟩ := hWa.cells))
          obtain ⟨hM5, hB5, hP5⟩ := hWa.fill (by omega) (.int .i64 0) (.int .i64 0) (.string ⟨#[]⟩) (.slice none 0 0) (.slice none 0 0) rfl
          unfold set5 at hM5 hB5 hP5
          generalize World.setCell _ _ _ = wf at hM5 hB5 hP5 ⊢
          obtain ⟨⟨cx0, cx1, cx2, cx3, cx4⟩, _⟩ := five_cells hB5
          refine bodyPost_ret (v := .tuple #[.agg #[.int .i64 0, .int .i64 0, .string ⟨#[]⟩, .slice none 0 0, .slice none 0 0], .iface 68 (.int .i64 e1)]) (by simp [results, Tryz.results95, go_sem, cx0, cx1, cx2, cx3, cx4]; try first | exact ⟨rfl, rfl⟩ | rfl) rfl ?_
          rw [← HRN.out]
          exact ⟨0, 0, ⟨#[]⟩, none, none, 0, 0, 0, 0, _, by rw [errN_pos HX.out]; rfl, hM5, hid (fun h => absurd h HX.out)⟩
      · have HRN := hid (show (O.map (·.1), 0, ez) = R by have h := HU.out; rw [if_neg (by simp), if_pos rfl] at h; exact h)
        unfold wEnd2 at hends
        clear HU
        go_wp2_with ((go_at_call 114; go_must (refine (hends _ hW.mov.at_).mono ?_); rintro e w1 ⟨rfl, hm1⟩; (have hW1 := hW.moved hm1); obtain ⟨⟨bx0, bx1, bx2, bx3, bx4⟩, fx0, fx1, fx2, fx3, fx4⟩ := five_cells hW1.box; obtain ⟨⟨vx0, vx1, vx2, vx3, vx4⟩, fv⟩ := hW1.cells))
        obtain ⟨hM5, hB5, hP5⟩ := hW1.fill (by omega) (.int .i64 6) (.int .i64 0) (.string ⟨#[]⟩) (.slice none 0 0) (.slice a O.length c) rfl
        unfold set5 at hM5 hB5 hP5
        generalize World.setCell _ _ _ = wf at hM5 hB5 hP5 ⊢
        obtain ⟨⟨cx0, cx1, cx2, cx3, cx4⟩, _⟩ := five_cells hB5
        refine bodyPost_ret (v := .tuple #[.agg #[.int .i64 6, .int .i64 0, .string ⟨#[]⟩, .slice none 0 0, .slice a O.length c], .nilIface]) (by simp [results, Tryz.results95, go_sem, cx0, cx1, cx2, cx3, cx4]; try first | exact ⟨rfl, rfl⟩ | rfl) rfl ?_
        rw [← HRN.out]
        exact ⟨6, 0, ⟨#[]⟩, none, a, 0, 0, _, c, _, by rw [errN_0], hM5, hid (fun _ => ⟨rfl, hez, hP5⟩)⟩
    · have HRN := hid (show ([], ex, j) = R by rw [← HU.out, if_pos hx])
      have HX := hid hx
      rw [errN_pos hx] at hends
      unfold errV wEnd2 at hends
      clear HU hx
      go_wp2_with ((go_at_call 114; go_must (refine (hends _ hW.mov.at_).mono ?_); rintro e w1 ⟨rfl, hm1⟩; (have hW1 := hW.moved hm1); obtain ⟨⟨bx0, bx1, bx2, bx3, bx4⟩, fx0, fx1, fx2, fx3, fx4⟩ := five_cells hW1.box; obtain ⟨⟨vx0, vx1, vx2, vx3, vx4⟩, fv⟩ := hW1.cells))
      all_goals
        obtain ⟨hM5, hB5, hP5⟩ := hW1.fill (by omega) (.int .i64 6) (.int .i64 0) (.string ⟨#[]⟩) (.slice none 0 0) (.slice a O.length c) rfl
        unfold set5 at hM5 hB5 hP5
        generalize World.setCell _ _ _ = wf at hM5 hB5 hP5 ⊢
        obtain ⟨⟨cx0, cx1, cx2, cx3, cx4⟩, _⟩ := five_cells hB5
        refine bodyPost_ret (v := .tuple #[.agg #[.int .i64 6, .int .i64 0, .string ⟨#[]⟩, .slice none 0 0, .slice a O.length c], .iface 68 (.int .i64 ex)]) (by simp [results, Tryz.results95, go_sem, cx0, cx1, cx2, cx3, cx4]; try first | exact ⟨rfl, rfl⟩ | rfl) rfl ?_
        rw [← HRN.out]
        exact ⟨6, 0, ⟨#[]⟩, none, a, 0, 0, _, c, _, by rw [errN_pos HX.out]; rfl, hM5, hid (fun h => absurd h HX.out)⟩
end Go.Proofs.YtobpidmlgldnmaaGreatDoor
