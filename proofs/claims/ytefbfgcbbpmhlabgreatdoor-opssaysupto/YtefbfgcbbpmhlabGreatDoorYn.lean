/-
  Joined: Vd5, Ym, Yn.
-/
import Derived.Test.YtefbfgcbbpmhlabGreatDoorVd4
import Derived.Test.YtefbfgcbbpmhlabGreatDoorYl

/-
  A field that is set: the document's own answer, walked.
-/
namespace Go.Proofs.YtefbfgcbbpmhlabGreatDoor
open Go.RowKit
set_option maxRecDepth 100000

theorem Laying.grow {d : Nat} {w wb : World} {name : ByteArray} {x : V} {f : List (ByteArray × V)} {t t' : Value} {laid laid' : Bool} {j j' : Nat} {wr w2 : World} {O : List FC} (h : Laying d w wb name x f t laid j wr O) (o : FC) (ho : o.ok d w) {ob : Obj}
    (hown : w2.ownsRow wb.heap.size 91 6 t' (O.length + 1) (flatO O ++ o.cells)) (hg : (wr.alloc ob).grownBy w2 t.ownBlock) (he : O.map (·.1) ++ [o.1] ++ rsetF name x (f.drop j') laid' = rsetF name x f false) (hl : O.length + 1 ≤ j' + 1) (hl0 : laid' = false → O.length + 1 ≤ j') : Laying d w wb name x f t' laid' j' w2 (O ++ [o]) := by
  refine ⟨?_, ?_, ?_, ?_, ?_, ?_⟩
  · rw [List.length_append, flatO_append, flatO_one]; exact hown
  · intro p hp
    rcases List.mem_append.1 hp with hp | hp
    · exact h.ok p hp
    · rw [List.mem_singleton.1 hp]; exact ho
  · exact (h.below.alloc h.below.size _).grown hg (by have := h.below.size; simp; omega) (fun k hk => (h.own.lt k hk).1)
  · rw [List.map_append]; exact he
  · rw [List.length_append]; exact hl
  · intro h; rw [List.length_append]; exact hl0 h
theorem ownsRow_setRow_below {w : World} {base : Nat} {e : TypeId} {size : Nat} {v : Value} {n : Nat} {xs : List Value} (h : w.ownsRow base e size v n xs) {b : Nat} (hb : b < base) (cs : Array Value) : (w.setRow b cs).ownsRow base e size v n xs :=
  World.ownsRow.kept h (row := some b) ⟨rfl, rfl, rfl, by simp [World.setRow], fun k _ hk => setRow_other w b k _ (fun e => hk (by rw [e]))⟩ (by
    cases hv : v.ownBlock with
    | none => exact .inl rfl
    | some g => exact .inr (fun e => by cases e; have := (h.lt b hv).1; omega))
theorem laid_end {e : Nat} {w wr wb : World} {v x : V} {name : ByteArray} {t : Value} {O : List FC} {al : Option Addr} {cl : Nat} (hown : wr.ownsRow wb.heap.size 91 6 t O.length (flatO O)) (hok : ∀ o ∈ O, FC.ok (e + 1) w o) (hO : O.map (·.1) = rsetF name x v.f false)
    (hL : LAt e w v.l al) (hsl : v.s.size ≤ maxLen ∧ v.l.length ≤ maxLen) (hlen : O.length ≤ 2000000) (hb : Below w.heap.size w wr) :
    ∃ af cf, t = .slice af O.length cf ∧ ∀ W, W.ownsRow wb.heap.size 91 6 t O.length (flatO O) → Below w.heap.size w W → RepN (e + 2) W ⟨v.k, v.n, v.s, v.l, rsetF name x v.f false⟩ [.int .i64 v.k, .int .i64 v.n, .string v.s, .slice al v.l.length cl, .slice af O.length cf] := by
  obtain ⟨af, cf, rfl, _⟩ := own_fields hown hok hb
  refine ⟨af, cf, rfl, fun W hW hbW => ?_⟩
  obtain ⟨af', cf', he, hF⟩ := own_fields hW hok hbW
  cases he
  have hl : (rsetF name x v.f false).length = O.length := by rw [← hO, List.length_map]
  refine ⟨al, af, cl, cf, by simp [hl], ⟨hsl.1, hsl.2, by simp only [hl]; unfold maxLen; omega⟩, fun i y hy => ?_, by rw [← hO]; exact hF⟩
  obtain ⟨b, off, c, h1, h2, h3, h4⟩ := LAt.later hL hbW i y hy
  exact ⟨b, off, c, h1, h2, h3, h4.mono (by omega)⟩
set_option maxHeartbeats 2000000 in
theorem rSet_says {e : Nat} {w : World} {v x : V} {cs cx : List Value} (name : ByteArray) (hnm : name.size ≤ maxLen) (hv : RepN (e + 1) w v cs) (hx : RepN (e + 1) w x cx) (hcn : v.f.length ≤ 1048576) :
    Calls Tryz.prog 43 #[.agg cs.toArray, .string name, .agg cx.toArray] w fun r w' => (∃ c, r = .returned (.agg c.toArray) ∧ RepN (e + 2) w' ⟨v.k, v.n, v.s, v.l, rsetF name x v.f false⟩ c) ∧ Below w.heap.size w w' := by
  obtain ⟨iF, hiF, hf0, hf1, hf2⟩ := info_parts infoF
  obtain ⟨al, af, cl, cf, rfl, ⟨hs, hl, hf⟩, hL, hF⟩ := hv
  have HL := hid (And.intro hL (And.intro hs hl))
  have HF := hid hF
  have HX := hid (show FC.ok (e + 1) w ((name, x), cx) from ⟨hnm, hx⟩)
  obtain ⟨al2, af2, cl2, cf2, rfl, _⟩ := hx
  clear hL hF hs hl
  unfold maxLen at hf
  go_enter Tryz.func43, Tryz.ntmps43
  go_wp2_with fail
  have hbw : Below w.heap.size w (((w.alloc (.cells #[.int .i64 v.k, .int .i64 v.n, .string v.s, .slice al v.l.length cl, .slice af v.f.length cf] 26)).alloc (.cells #[.int .i64 x.k, .int .i64 x.n, .string x.s, .slice al2 x.l.length cl2, .slice af2 x.f.length cf2] 26)).alloc (.cells #[.int .i64 0, .int .i64 0, .string ⟨#[]⟩, .slice none 0 0, .slice none 0 0] 26)) := by go_grown
  have A1 := ((At.new w #[.int .i64 v.k, .int .i64 v.n, .string v.s, .slice al v.l.length cl, .slice af v.f.length cf] 26 rfl).alloc (.cells #[.int .i64 x.k, .int .i64 x.n, .string x.s, .slice al2 x.l.length cl2, .slice af2 x.f.length cf2] 26)).alloc (.cells #[.int .i64 0, .int .i64 0, .string ⟨#[]⟩, .slice none 0 0, .slice none 0 0] 26)
  have A2 := (At.new (w.alloc (.cells #[.int .i64 v.k, .int .i64 v.n, .string v.s, .slice al v.l.length cl, .slice af v.f.length cf] 26)) #[.int .i64 x.k, .int .i64 x.n, .string x.s, .slice al2 x.l.length cl2, .slice af2 x.f.length cf2] 26 (b := w.heap.size + 1) (by simp)).alloc (.cells #[.int .i64 0, .int .i64 0, .string ⟨#[]⟩, .slice none 0 0, .slice none 0 0] 26)
  have A3 := At.new ((w.alloc (.cells #[.int .i64 v.k, .int .i64 v.n, .string v.s, .slice al v.l.length cl, .slice af v.f.length cf] 26)).alloc (.cells #[.int .i64 x.k, .int .i64 x.n, .string x.s, .slice al2 x.l.length cl2, .slice af2 x.f.length cf2] 26)) #[.int .i64 0, .int .i64 0, .string ⟨#[]⟩, .slice none 0 0, .slice none 0 0] 26 (b := w.heap.size + 1 + 1) (by simp)
  generalize ((w.alloc (.cells #[.int .i64 v.k, .int .i64 v.n, .string v.s, .slice al v.l.length cl, .slice af v.f.length cf] 26)).alloc (.cells #[.int .i64 x.k, .int .i64 x.n, .string x.s, .slice al2 x.l.length cl2, .slice af2 x.f.length cf2] 26)).alloc (.cells #[.int .i64 0, .int .i64 0, .string ⟨#[]⟩, .slice none 0 0, .slice none 0 0] 26) = wb at *
  have HBW := hid hbw
  have hw1 := A1.lt
  have hw3 := A3.lt
  have HA := hid (And.intro A1 (And.intro A2 A3))
  clear hbw A1 A2 A3
  go_loopw [7, 8, 9] (fun t u i wr => ∃ (j : Nat) (laid : Bool) (O : List FC), i = .int .i64 j ∧ u = .bool laid ∧ j ≤ v.f.length ∧ Laying (e + 1) w wb name x v.f t laid j wr O) (fun _ _ i _ => v.f.length - (intOf i).toNat)
  case atStart => exact ⟨0, false, [], rfl, rfl, Nat.zero_le _, World.ownsRow_nil _ _ _ _, by simp, Below.refl _ _, by simp, by simp, by simp⟩
  case round =>
    obtain ⟨j, laid, O, rfl, rfl, hj, hY⟩ := hrel
    have HY := hid hY
    have hbs := hY.below.size
    have hOl := hY.len
    have hOl0 := hid hY.len0
    have m1 := (HA.out.1.later hY.below).cell
    have z1 := (HA.out.1.later hY.below).lt
    have m2 := (HA.out.2.1.later hY.below).cell
    have z2 := (HA.out.2.1.later hY.below).lt
    clear hY
    by_cases hjl : j < v.f.length
    · have hjl' : (j : Int) < v.f.length := by omega
      obtain ⟨b, off, c, rfl, hbl, hnl, hcn, hc, hr⟩ := HF.out j v.f[j] (List.getElem?_eq_getElem hjl)
      have hB0 : Below w.heap.size w wr := HBW.out.trans (HY.out.below.mono HBW.out.size)
      have hbr : b < wr.heap.size := Nat.lt_of_lt_of_le hbl hB0.size
      have hbb : b < wb.heap.size := Nat.lt_of_lt_of_le hbl HBW.out.size
      have HO := hid (show FC.ok (e + 1) w (v.f[j], c) from ⟨hnl, hr.mono (by omega)⟩)
      obtain ⟨k1, n1, s1, a1, l1, c1, a2, l2, c2, rfl, g0, g1, g2, g3, g4⟩ := rep_cells (hr.later hB0) (hc.later hbl hB0)
      have gn := (hB0.cell (p := ⟨b, off + j * 6, none⟩) hbl).trans hcn
      have HDR := hid (show v.f.drop j = v.f[j] :: v.f.drop (j + 1) from List.drop_eq_getElem_cons hjl)
      clear hr hc hcn hnl
      cases laid
      · cases hle : leB name v.f[j].1
        · have HLE := hid hle
          have hne : (v.f[j].1.toList == name.toList) = false := by
            cases hh : (v.f[j].1.toList == name.toList)
            · rfl
            · rw [leB_iff.2 (.inr (toList_eq (by simpa using hh)).symm)] at hle; cases hle
          have HNE := hid hne
          unfold leB at hle
          have HEa := hid (show O.map (·.1) ++ [v.f[j]] ++ rsetF name x (v.f.drop (j + 1)) false = rsetF name x v.f false by
            have h := HY.out.eq
            rw [HDR.out, rsetF, HNE.out, HLE.out] at h
            simpa using h)
          go_wp2_with (at_builtin; refine wpList_append_own _ rfl (.tmp 43) (.tmp 49) 24 rfl wb.heap.size 91 iF _ 6 96 Tryz.underlying24 hiF hf0 hf1 hf2 rfl (by decide) _ _ _ rfl (HY.out.own.alloc _) ⟨wr.heap.size, 0, none⟩ 1 1 [.string v.f[j].1, .int .i64 k1, .int .i64 n1, .string s1, .slice a1 l1 c1, .slice a2 l2 c2] rfl rfl (fun i u hi => news_at rfl i u hi) (by simp [Value.oneCell']) (by unfold maxLen; first | omega | (simp; omega)) (by first | omega | (simp; omega)) (by first | omega | (simp; omega)) ?_)
          intro va wa howna hgrowa _
          have HYa := hid (HY.out.grow _ HO.out (by simpa [FC.cells] using howna) hgrowa HEa.out (by have := hOl0.out (by first | rfl | trivial); omega) (fun _ => by have := hOl0.out (by first | rfl | trivial); omega))
          clear howna hgrowa
          go_wp2_with fail
          go_roundw
          case rel => exact ⟨j + 1, false, _, by go_num, rfl, by omega, HYa.out⟩
          case measure => simp [intOf]; omega
        · have HLE := hid hle
          cases hne : (v.f[j].1.toList == name.toList)
          all_goals
            have HNE := hid hne
            have HE1 := hid (show O.map (·.1) ++ [(name, x)] ++ rsetF name x (v.f.drop j) true = rsetF name x v.f false by
              have h := HY.out.eq
              rw [HDR.out, rsetF, HLE.out] at h
              rw [HDR.out, rsetF]
              simpa using h)
            unfold leB at hle
          · go_wp2_with (at_builtin; refine wpList_append_own _ rfl (.tmp 29) (.tmp 33) 24 rfl wb.heap.size 91 iF _ 6 96 Tryz.underlying24 hiF hf0 hf1 hf2 rfl (by decide) _ _ _ rfl (HY.out.own.alloc _) ⟨wr.heap.size, 0, none⟩ 1 1 [.string name, .int .i64 x.k, .int .i64 x.n, .string x.s, .slice al2 x.l.length cl2, .slice af2 x.f.length cf2] rfl rfl (fun i u hi => news_at rfl i u hi) (by simp [Value.oneCell']) (by unfold maxLen; first | omega | (simp; omega)) (by first | omega | (simp; omega)) (by first | omega | (simp; omega)) ?_)
            intro v2 w2 hown2 hgrow2 _
            have HY2 := hid (HY.out.grow (j' := j) (laid' := true) ((name, x), [.int .i64 x.k, .int .i64 x.n, .string x.s, .slice al2 x.l.length cl2, .slice af2 x.f.length cf2]) HX.out (by simpa [FC.cells] using hown2) hgrow2 HE1.out (by have := hOl0.out (by first | rfl | trivial); omega) (by simp))
            have hbs2 := HY2.out.below.size
            have p1 := (HA.out.1.later HY2.out.below).cell
            have p2 := (HA.out.1.later HY2.out.below).lt
            have hB2 : Below w.heap.size w w2 := HBW.out.trans (HY2.out.below.mono HBW.out.size)
            have q0 := (hB2.cell (p := ⟨b, off + j * 6 + 1, none⟩) hbl).trans ((hB0.cell (p := ⟨b, off + j * 6 + 1, none⟩) hbl).symm.trans g0)
            have q1 := (hB2.cell (p := ⟨b, off + j * 6 + 1 + 1, none⟩) hbl).trans ((hB0.cell (p := ⟨b, off + j * 6 + 1 + 1, none⟩) hbl).symm.trans g1)
            have q2 := (hB2.cell (p := ⟨b, off + j * 6 + 1 + 2, none⟩) hbl).trans ((hB0.cell (p := ⟨b, off + j * 6 + 1 + 2, none⟩) hbl).symm.trans g2)
            have q3 := (hB2.cell (p := ⟨b, off + j * 6 + 1 + 3, none⟩) hbl).trans ((hB0.cell (p := ⟨b, off + j * 6 + 1 + 3, none⟩) hbl).symm.trans g3)
            have q4 := (hB2.cell (p := ⟨b, off + j * 6 + 1 + 4, none⟩) hbl).trans ((hB0.cell (p := ⟨b, off + j * 6 + 1 + 4, none⟩) hbl).symm.trans g4)
            have qn := (hB2.cell (p := ⟨b, off + j * 6, none⟩) hbl).trans ((hB0.cell (p := ⟨b, off + j * 6, none⟩) hbl).symm.trans gn)
            have hbr2 : b < w2.heap.size := Nat.lt_of_lt_of_le hbl hB2.size
            clear hown2 hgrow2
            have HEc := hid (show (O ++ [((name, x), ([.int .i64 x.k, .int .i64 x.n, .string x.s, .slice al2 x.l.length cl2, .slice af2 x.f.length cf2] : List Value))]).map (·.1) ++ [v.f[j]] ++ rsetF name x (v.f.drop (j + 1)) true = rsetF name x v.f false by
              have h := HY2.out.eq
              rw [HDR.out, rsetF, HNE.out] at h
              simpa using h)
            go_wp2_with (at_builtin; refine wpList_append_own _ rfl (.tmp 43) (.tmp 49) 24 rfl wb.heap.size 91 iF _ 6 96 Tryz.underlying24 hiF hf0 hf1 hf2 rfl (by decide) _ _ _ rfl (HY2.out.own.alloc _) ⟨w2.heap.size, 0, none⟩ 1 1 [.string v.f[j].1, .int .i64 k1, .int .i64 n1, .string s1, .slice a1 l1 c1, .slice a2 l2 c2] rfl rfl (fun i u hi => news_at rfl i u hi) (by simp [Value.oneCell']) (by unfold maxLen; first | omega | (simp; omega)) (by first | omega | (simp; omega)) (by first | omega | (simp; omega)) ?_)
            intro vc wc hownc hgrowc _
            have HYc := hid (HY2.out.grow _ HO.out (by simpa [FC.cells] using hownc) hgrowc HEc.out (by have := HY2.out.len; simp at *; omega) (by simp))
            clear hownc hgrowc
            go_wp2_with fail
            go_roundw
            case rel => exact ⟨j + 1, true, _, by go_num, rfl, by omega, HYc.out⟩
            case measure => simp [intOf]; omega
          · go_wp2_with (at_builtin; refine wpList_append_own _ rfl (.tmp 29) (.tmp 33) 24 rfl wb.heap.size 91 iF _ 6 96 Tryz.underlying24 hiF hf0 hf1 hf2 rfl (by decide) _ _ _ rfl (HY.out.own.alloc _) ⟨wr.heap.size, 0, none⟩ 1 1 [.string name, .int .i64 x.k, .int .i64 x.n, .string x.s, .slice al2 x.l.length cl2, .slice af2 x.f.length cf2] rfl rfl (fun i u hi => news_at rfl i u hi) (by simp [Value.oneCell']) (by unfold maxLen; first | omega | (simp; omega)) (by first | omega | (simp; omega)) (by first | omega | (simp; omega)) ?_)
            intro v2 w2 hown2 hgrow2 _
            have HY2 := hid (HY.out.grow (j' := j) (laid' := true) ((name, x), [.int .i64 x.k, .int .i64 x.n, .string x.s, .slice al2 x.l.length cl2, .slice af2 x.f.length cf2]) HX.out (by simpa [FC.cells] using hown2) hgrow2 HE1.out (by have := hOl0.out (by first | rfl | trivial); omega) (by simp))
            have hbs2 := HY2.out.below.size
            have p1 := (HA.out.1.later HY2.out.below).cell
            have p2 := (HA.out.1.later HY2.out.below).lt
            have hB2 : Below w.heap.size w w2 := HBW.out.trans (HY2.out.below.mono HBW.out.size)
            have q0 := (hB2.cell (p := ⟨b, off + j * 6 + 1, none⟩) hbl).trans ((hB0.cell (p := ⟨b, off + j * 6 + 1, none⟩) hbl).symm.trans g0)
            have q1 := (hB2.cell (p := ⟨b, off + j * 6 + 1 + 1, none⟩) hbl).trans ((hB0.cell (p := ⟨b, off + j * 6 + 1 + 1, none⟩) hbl).symm.trans g1)
            have q2 := (hB2.cell (p := ⟨b, off + j * 6 + 1 + 2, none⟩) hbl).trans ((hB0.cell (p := ⟨b, off + j * 6 + 1 + 2, none⟩) hbl).symm.trans g2)
            have q3 := (hB2.cell (p := ⟨b, off + j * 6 + 1 + 3, none⟩) hbl).trans ((hB0.cell (p := ⟨b, off + j * 6 + 1 + 3, none⟩) hbl).symm.trans g3)
            have q4 := (hB2.cell (p := ⟨b, off + j * 6 + 1 + 4, none⟩) hbl).trans ((hB0.cell (p := ⟨b, off + j * 6 + 1 + 4, none⟩) hbl).symm.trans g4)
            have qn := (hB2.cell (p := ⟨b, off + j * 6, none⟩) hbl).trans ((hB0.cell (p := ⟨b, off + j * 6, none⟩) hbl).symm.trans gn)
            have hbr2 : b < w2.heap.size := Nat.lt_of_lt_of_le hbl hB2.size
            clear hown2 hgrow2
            have HYf := hid (show Laying (e + 1) w wb name x v.f _ true (j + 1) _ _ from ⟨HY2.out.own, HY2.out.ok, HY2.out.below, by
              have h := HY2.out.eq
              rw [HDR.out, rsetF, HNE.out] at h
              simpa using h, by have := HY2.out.len; omega, by simp⟩)
            go_wp2_with fail
            go_roundw
            case rel => exact ⟨j + 1, true, _, by go_num, rfl, by omega, HYf.out⟩
            case measure => simp [intOf]; omega
      · cases hne : (v.f[j].1.toList == name.toList)
        · have HNE := hid hne
          have HEg := hid (show O.map (·.1) ++ [v.f[j]] ++ rsetF name x (v.f.drop (j + 1)) true = rsetF name x v.f false by
            have h := HY.out.eq
            rw [HDR.out, rsetF, HNE.out] at h
            simpa using h)
          go_wp2_with (at_builtin; refine wpList_append_own _ rfl (.tmp 43) (.tmp 49) 24 rfl wb.heap.size 91 iF _ 6 96 Tryz.underlying24 hiF hf0 hf1 hf2 rfl (by decide) _ _ _ rfl (HY.out.own.alloc _) ⟨wr.heap.size, 0, none⟩ 1 1 [.string v.f[j].1, .int .i64 k1, .int .i64 n1, .string s1, .slice a1 l1 c1, .slice a2 l2 c2] rfl rfl (fun i u hi => news_at rfl i u hi) (by simp [Value.oneCell']) (by unfold maxLen; first | omega | (simp; omega)) (by first | omega | (simp; omega)) (by first | omega | (simp; omega)) ?_)
          intro vg wg howng hgrowg _
          have HYg := hid (HY.out.grow _ HO.out (by simpa [FC.cells] using howng) hgrowg HEg.out (by have := HY.out.len; simp at *; omega) (by simp))
          clear howng hgrowg
          go_wp2_with fail
          go_roundw
          case rel => exact ⟨j + 1, true, _, by go_num, rfl, by omega, HYg.out⟩
          case measure => simp [intOf]; omega
        · have HNE := hid hne
          have HYk := hid (show Laying (e + 1) w wb name x v.f _ true (j + 1) _ _ from ⟨HY.out.own, HY.out.ok, HY.out.below, by
            have h := HY.out.eq
            rw [HDR.out, rsetF, HNE.out] at h
            simpa using h, by have := HY.out.len; omega, by simp⟩)
          go_wp2_with fail
          go_roundw
          case rel => exact ⟨j + 1, true, _, by go_num, rfl, by omega, HYk.out⟩
          case measure => simp [intOf]; omega
    · have hjl' : ¬ (j : Int) < v.f.length := by omega
      have hje : v.f.drop j = [] := List.drop_eq_nil_of_le (by omega)
      have HJE := hid hje
      clear hje
      cases laid
      · go_wp2_with (at_builtin; refine wpList_append_own _ rfl (.tmp 53) (.tmp 57) 24 rfl wb.heap.size 91 iF _ 6 96 Tryz.underlying24 hiF hf0 hf1 hf2 rfl (by decide) _ _ _ rfl (HY.out.own.alloc _) ⟨wr.heap.size, 0, none⟩ 1 1 [.string name, .int .i64 x.k, .int .i64 x.n, .string x.s, .slice al2 x.l.length cl2, .slice af2 x.f.length cf2] rfl rfl (fun i u hi => news_at rfl i u hi) (by simp [Value.oneCell']) (by unfold maxLen; first | omega | (simp; omega)) (by first | omega | (simp; omega)) (by first | omega | (simp; omega)) ?_)
        intro v2 w2 hown2 hgrow2 _
        have HY2 := hid (HY.out.grow (j' := j) (laid' := true) ((name, x), [.int .i64 x.k, .int .i64 x.n, .string x.s, .slice al2 x.l.length cl2, .slice af2 x.f.length cf2]) HX.out (by simpa [FC.cells] using hown2) hgrow2 (by have h := HY.out.eq; rw [HJE.out] at h ⊢; simpa [rsetF] using h) (by have := hOl0.out (by first | rfl | trivial); omega) (by simp))
        clear hown2 hgrow2
        have HO1 := hid (show (O ++ [((name, x), ([.int .i64 x.k, .int .i64 x.n, .string x.s, .slice al2 x.l.length cl2, .slice af2 x.f.length cf2] : List Value))]).map (·.1) = rsetF name x v.f false from by have h := HY2.out.eq; rw [HJE.out] at h; simpa [rsetF] using h)
        obtain ⟨af3, cf3, rfl, HEND⟩ := laid_end (al := al) (cl := cl) HY2.out.own HY2.out.ok HO1.out HL.out.1 HL.out.2 (by have := HY2.out.len; omega) (HBW.out.trans (HY2.out.below.mono HBW.out.size))
        have HE2 := hid HEND
        clear HEND
        have A1 := HA.out.1.later HY2.out.below
        have A3 := HA.out.2.2.later HY2.out.below
        have c1 := A1.cell
        have l1 := A1.lt
        have f1 := A1.free
        have hR := (Below.heap_setCell w2 ⟨w.heap.size, 4, none⟩ (.slice af3 (O.length + 1) cf3) (w.heap.size + 1 + 1) (by simp; omega)).trans A3
        have l3 := A3.lt
        go_wp2_with (refine wpList_store_row rfl 26 (.tmp 6) (.tmp 61) rfl (w.heap.size + 1 + 1) #[.int .i64 v.k, .int .i64 v.n, .string v.s, .slice al v.l.length cl, .slice af3 (O.length + 1) cf3] rfl rfl 26 #[.int .i64 0, .int .i64 0, .string ⟨#[]⟩, .slice none 0 0, .slice none 0 0] hR (by kernel_rfl) rfl (by simp [Value.oneCell']) ?_)
        have rc := (At.setRow hR #[.int .i64 v.k, .int .i64 v.n, .string v.s, .slice al v.l.length cl, .slice af3 (O.length + 1) cf3]).cell
        have hBB : Below w.heap.size w ((w2.setCell ⟨w.heap.size, 4, none⟩ (.slice af3 (O.length + 1) cf3)).setRow (w.heap.size + 1 + 1) #[.int .i64 v.k, .int .i64 v.n, .string v.s, .slice al v.l.length cl, .slice af3 (O.length + 1) cf3]) := below_setRow ((HBW.out.trans (HY2.out.below.mono HBW.out.size)).setCell (p := ⟨w.heap.size, 4, none⟩) (Nat.le_refl _) _) (by omega) _
        refine bodyPost_ret (v := .agg #[.int .i64 v.k, .int .i64 v.n, .string v.s, .slice al v.l.length cl, .slice af3 (O.length + 1) cf3]) (by simp [results, Tryz.results43, go_sem, rc]) rfl ⟨⟨[.int .i64 v.k, .int .i64 v.n, .string v.s, .slice al v.l.length cl, .slice af3 (O.length + 1) cf3], rfl, ?_⟩, hBB⟩
        have hfin := HE2.out _ (ownsRow_setRow_below (ownsRow_setCell_below HY2.out.own (a := ⟨w.heap.size, 4, none⟩) hw1 _) hw3 _) hBB
        first | exact hfin | simpa only [List.length_append, List.length_singleton] using hfin
      · have HO1 := hid (show O.map (·.1) = rsetF name x v.f false from by have h := HY.out.eq; rw [HJE.out] at h; simpa [rsetF] using h)
        obtain ⟨af3, cf3, rfl, HEND⟩ := laid_end (al := al) (cl := cl) HY.out.own HY.out.ok HO1.out HL.out.1 HL.out.2 (by have := HY.out.len; omega) (HBW.out.trans (HY.out.below.mono HBW.out.size))
        have HE2 := hid HEND
        clear HEND
        have A1 := HA.out.1.later HY.out.below
        have A3 := HA.out.2.2.later HY.out.below
        have c1 := A1.cell
        have l1 := A1.lt
        have f1 := A1.free
        have hR := (Below.heap_setCell wr ⟨w.heap.size, 4, none⟩ (.slice af3 O.length cf3) (w.heap.size + 1 + 1) (by simp; omega)).trans A3
        have l3 := A3.lt
        go_wp2_with (refine wpList_store_row rfl 26 (.tmp 6) (.tmp 61) rfl (w.heap.size + 1 + 1) #[.int .i64 v.k, .int .i64 v.n, .string v.s, .slice al v.l.length cl, .slice af3 O.length cf3] rfl rfl 26 #[.int .i64 0, .int .i64 0, .string ⟨#[]⟩, .slice none 0 0, .slice none 0 0] hR (by kernel_rfl) rfl (by simp [Value.oneCell']) ?_)
        have rc := (At.setRow hR #[.int .i64 v.k, .int .i64 v.n, .string v.s, .slice al v.l.length cl, .slice af3 O.length cf3]).cell
        have hBB : Below w.heap.size w ((wr.setCell ⟨w.heap.size, 4, none⟩ (.slice af3 O.length cf3)).setRow (w.heap.size + 1 + 1) #[.int .i64 v.k, .int .i64 v.n, .string v.s, .slice al v.l.length cl, .slice af3 O.length cf3]) := below_setRow ((HBW.out.trans (HY.out.below.mono HBW.out.size)).setCell (p := ⟨w.heap.size, 4, none⟩) (Nat.le_refl _) _) (by omega) _
        refine bodyPost_ret (v := .agg #[.int .i64 v.k, .int .i64 v.n, .string v.s, .slice al v.l.length cl, .slice af3 O.length cf3]) (by simp [results, Tryz.results43, go_sem, rc]) rfl ⟨⟨[.int .i64 v.k, .int .i64 v.n, .string v.s, .slice al v.l.length cl, .slice af3 O.length cf3], rfl, ?_⟩, hBB⟩
        have hfin := HE2.out _ (ownsRow_setRow_below (ownsRow_setCell_below HY.out.own (a := ⟨w.heap.size, 4, none⟩) hw1 _) hw3 _) hBB
        first | exact hfin | simpa only [List.length_append, List.length_singleton] using hfin
end Go.Proofs.YtefbfgcbbpmhlabGreatDoor

/-
  Trees that stand in known blocks; a row of values that a call owns; what reading a list makes.
-/
namespace Go.Proofs.YtefbfgcbbpmhlabGreatDoor
open Go.RowKit
set_option maxRecDepth 100000

/-- The cells hold the tree, and go on to hold it as long as these blocks stay. -/
def RepIn (S : Nat → Prop) (d : Nat) (w : World) (v : V) (cs : List Value) : Prop :=
  ∀ w', w.heap.size ≤ w'.heap.size → (∀ b, S b → w'.heap[b]? = w.heap[b]?) → RepN d w' v cs
theorem RepIn.now {S : Nat → Prop} {d : Nat} {w : World} {v : V} {cs : List Value} (h : RepIn S d w v cs) : RepN d w v cs := h w (Nat.le_refl _) fun _ _ => rfl
theorem RepIn.mono {S T : Nat → Prop} {d : Nat} {w : World} {v : V} {cs : List Value} (h : RepIn S d w v cs) (hS : ∀ b, S b → T b) : RepIn T d w v cs :=
  fun w' hs hb => h w' hs fun b hb' => hb b (hS b hb')
theorem RepIn.agree {S : Nat → Prop} {d : Nat} {w w' : World} {v : V} {cs : List Value} (h : RepIn S d w v cs) (hs : w.heap.size ≤ w'.heap.size) (hb : ∀ b, S b → w'.heap[b]? = w.heap[b]?) : RepIn S d w' v cs :=
  fun w2 hs2 hb2 => h w2 (Nat.le_trans hs hs2) fun b hb' => (hb2 b hb').trans (hb b hb')
theorem repIn_vc (S : Nat → Prop) (d : Nat) (w : World) (k n : Int) (s : ByteArray) (hs : s.size ≤ maxLen) : RepIn S (d + 1) w (V0 k n s) (vc k n s).toList :=
  fun w' _ _ => rep_vc d w' k n s hs
/-- Values, and their cells. -/
abbrev VC := V × List Value
def flatV (O : List VC) : List Value := O.flatMap (·.2)
theorem flatV_append (O O' : List VC) : flatV (O ++ O') = flatV O ++ flatV O' := List.flatMap_append
theorem flatV_one (o : VC) : flatV [o] = o.2 := by simp [flatV]
theorem flatV_get : ∀ {O : List VC} {i : Nat} {o : VC}, (∀ o ∈ O, o.2.length = 5) → O[i]? = some o → ∀ j, j < 5 → (flatV O)[i * 5 + j]? = o.2[j]?
  | [], i, o, _, h, _, _ => by simp at h
  | p :: O, 0, o, hk, h, j, hj => by
    simp at h; subst h
    have := hk p (by simp)
    rw [flatV, List.flatMap_cons, List.getElem?_append_left (by omega)]; simp
  | p :: O, i + 1, o, hk, h, j, hj => by
    have h1 := hk p (by simp)
    have ih := flatV_get (O := O) (fun q hq => hk q (by simp [hq])) (show O[i]? = some o by simpa using h) j hj
    rw [flatV, List.flatMap_cons, List.getElem?_append_right (by omega), h1, show (i + 1) * 5 + j - 5 = i * 5 + j by omega]
    exact ih
theorem cell_block {w w' : World} {b : Nat} (h : w'.heap[b]? = w.heap[b]?) (o : Nat) : w'.cell? ⟨b, o, none⟩ = w.cell? ⟨b, o, none⟩ := by
  unfold World.cell?; simp only [h]
/-- A row of values that a call owns, and a list that it holds. -/
theorem repIn_list {S T : Nat → Prop} {d base : Nat} {w : World} {t : Value} {O : List VC} (h : w.ownsRow base 26 5 t O.length (flatV O)) (hk : ∀ o ∈ O, RepIn S d w o.1 o.2) (hl : O.length ≤ 1000)
    (hS : ∀ b, S b → T b) (hT : ∀ g, t.ownBlock = some g → T g) : RepIn T (d + 1) w ⟨5, 0, eB, O.map (·.1), []⟩ [.int .i64 5, .int .i64 0, .string eB, t, .slice none 0 0] := by
  intro w' hs hb
  have h5 : ∀ o ∈ O, o.2.length = 5 := fun o ho => rep_len (hk o ho).now
  rcases h.2 with ⟨rfl, h0⟩ | ⟨g, cap, cur, rfl, _, hg, _⟩
  · have : O = [] := List.eq_nil_of_length_eq_zero h0
    subst this
    exact ⟨none, none, 0, 0, rfl, ⟨Nat.zero_le _, by simp [maxLen], by simp [maxLen]⟩, fun i x h => by simp at h, fun i q h => by simp at h⟩
  · refine ⟨some ⟨g, 0, none⟩, none, cap, 0, by simp, ⟨Nat.zero_le _, by simp [maxLen]; omega, by simp [maxLen]⟩, fun i x hx => ?_, fun i q h => by simp at h⟩
    have hx' : (O.map (·.1))[i]? = some x := hx
    rw [List.getElem?_map, Option.map_eq_some_iff] at hx'
    obtain ⟨o, ho, rfl⟩ := hx'
    have hi := (List.getElem?_eq_some_iff.1 ho).1
    have hgb := hb g (hT g rfl)
    refine ⟨g, 0, o.2, rfl, Nat.lt_of_lt_of_le (Array.getElem?_eq_some_iff.1 hg).1 hs, fun j c hc => ?_, (hk o (List.mem_of_getElem? ho)) w' hs fun b hb' => hb b (hS b hb')⟩
    have hj := (List.getElem?_eq_some_iff.1 hc).1
    rw [h5 o (List.mem_of_getElem? ho)] at hj
    rw [cell_block hgb, Nat.zero_add, h.cellAt _ (by omega), flatV_get h5 ho j hj]
    exact hc

/-- A value, an error, where it ends. -/
abbrev Rd := V × Int × Nat
def wEnd : ByteArray := ⟨#[93]⟩
/-- What reading a list makes: the values, an error, where it ends. -/
def rdL (f : Nat → Rd) (s : ByteArray) : Nat → List V → Nat → List V × Int × Nat
  | 0, _, j => ([], 2, j)
  | n + 1, acc, j =>
    if (endsR s wEnd j).1 ≠ 0 then ([], (endsR s wEnd j).1, j)
    else if (endsR s wEnd j).2.1 then (acc, 0, (endsR s wEnd j).2.2)
    else if (f (endsR s wEnd j).2.2).2.1 ≠ 0 then ([], (f (endsR s wEnd j).2.2).2.1, j)
    else if 300 < acc.length + 1 then ([], 2, j)
    else rdL f s n (acc ++ [(f (endsR s wEnd j).2.2).1]) (f (endsR s wEnd j).2.2).2.2
/-- What a call that reads a value says. -/
def Said (P : Nat) (w : World) (s : ByteArray) (d : Nat) (r : Rd) (e : Ending) (w' : World) : Prop :=
  ∃ (k n : Int) (t : ByteArray) (a1 a2 : Option Addr) (l1 c1 l2 c2 J : Nat), e = .returned (.tuple #[.agg #[.int .i64 k, .int .i64 n, .string t, .slice a1 l1 c1, .slice a2 l2 c2], errN r.2.1]) ∧ Moved P w w' s J ∧
    Hid (r.2.1 = 0 → J = r.2.2 ∧ J ≤ s.size ∧ RepIn (fun b => w.heap.size ≤ b ∧ b < w'.heap.size) d w' r.1 [.int .i64 k, .int .i64 n, .string t, .slice a1 l1 c1, .slice a2 l2 c2])
end Go.Proofs.YtefbfgcbbpmhlabGreatDoor

/-
  The program's reader: a list that is being read.
-/
namespace Go.Proofs.YtefbfgcbbpmhlabGreatDoor
open Go.RowKit
set_option maxRecDepth 100000

/-- The blocks that the read values may lie in: new ones, not the row's own. -/
def Room (B : Nat) (w : World) (t : Value) (b : Nat) : Prop := B ≤ b ∧ b < w.heap.size ∧ some b ≠ t.ownBlock
/-- A list that is being read: the answer's block, the list's block, its row, the values. -/
structure Rowed (P : Nat) (w wr : World) (s : ByteArray) (j d : Nat) (t : Value) (O : List VC) : Prop where
  mov : Moved P w wr s j
  lt : P < w.heap.size
  box : At wr w.heap.size 26 (vc 0 0 ⟨#[]⟩)
  vbox : At wr (w.heap.size + 1) 26 #[.int .i64 5, .int .i64 0, .string ⟨#[]⟩, t, .slice none 0 0]
  own : wr.ownsRow (w.heap.size + 2) 26 5 t O.length (flatV O)
  reps : ∀ o ∈ O, RepIn (Room (w.heap.size + 2) wr t) d wr o.1 o.2
theorem Rowed.moved {P : Nat} {w a b : World} {s : ByteArray} {j i d : Nat} {t : Value} {O : List VC} (h : Rowed P w a s j d t O) (m : Moved P a b s i) : Rowed P w b s i d t O := by
  have hP := h.lt
  refine ⟨h.mov.trans m, hP, m.keep.at h.box (by omega), m.keep.at h.vbox (by omega), ?_, fun o ho => ?_⟩
  · refine World.ownsRow.kept h.own (row := some P) ⟨m.keep.os, m.keep.tape, m.keep.output, m.keep.size, fun k hk hne => m.keep.block k hk (fun e => hne (by rw [e]))⟩ ?_
    cases hv : t.ownBlock with
    | none => exact .inl rfl
    | some g => exact .inr (fun e => by cases e; have := (h.own.lt P hv).1; omega)
  · refine ((h.reps o ho).agree m.keep.size fun b hb => m.keep.block b hb.2.1 (by have := hb.1; omega)).mono fun b hb => ⟨hb.1, Nat.lt_of_lt_of_le hb.2.1 m.keep.size, hb.2.2⟩
theorem Rowed.env {m : Int} {P : Nat} {w a : World} {s : ByteArray} {j d : Nat} {t : Value} {O : List VC} (h : Rowed P w a s j d t O) (hE : Env m P w) : Env m P a := hE.moved h.mov h.lt
theorem Rowed.size {P : Nat} {w a : World} {s : ByteArray} {j d : Nat} {t : Value} {O : List VC} (h : Rowed P w a s j d t O) : w.heap.size + 2 ≤ a.heap.size := At.lt h.vbox
/-- One more value: it was read into new blocks, two blocks were laid, the row grew, the list's block holds the row anew. -/
theorem Rowed.grow {P : Nat} {w a b : World} {s : ByteArray} {j i d : Nat} {t t' : Value} {O : List VC} {x : V} {c : List Value} {o1 o2 : Obj} {w2 : World} (h : Rowed P w a s j d t O) (m : Moved P a b s i)
    (hx : RepIn (fun g => a.heap.size ≤ g ∧ g < b.heap.size) d b x c) (hown : w2.ownsRow (w.heap.size + 2) 26 5 t' (O.length + 1) (flatV O ++ c)) (hg : ((b.alloc o1).alloc o2).grownBy w2 t.ownBlock)
    (hat : t'.ownBlock = t.ownBlock ∨ t'.ownBlock = some ((b.alloc o1).alloc o2).heap.size) : Rowed P w (w2.setCell ⟨w.heap.size + 1, 3, none⟩ t') s i d t' (O ++ [(x, c)]) := by
  have hb := h.moved m
  have hP := h.lt
  have hbs := hb.size
  have has := h.size
  have hsz := hg.size
  have hsz2 : b.heap.size + 2 ≤ w2.heap.size := by simp at hsz; omega
  have same : ∀ k, k < b.heap.size → some k ≠ t.ownBlock → w2.heap[k]? = b.heap[k]? := fun k hk hne => by
    rw [hg.block k (by simp; omega) hne, heap_alloc_old _ _ (by simp; omega), heap_alloc_old _ _ hk]
  have low : ∀ k, k < w.heap.size + 2 → some k ≠ t.ownBlock := fun k hk e => by
    have := (hb.own.lt k e.symm).1; omega
  have hW : Moved P w w2 s i := by
    refine ⟨⟨hg.os.trans hb.mov.keep.os, hg.tape.trans hb.mov.keep.tape, hg.output.trans hb.mov.keep.output, by omega, fun k hk hne => ?_⟩, ?_⟩
    · rw [same k (by omega) (low k (by omega))]; exact hb.mov.keep.block k hk hne
    · exact (same P (by omega) (low P (by omega))).trans hb.mov.at_
  have sz : (w2.setCell ⟨w.heap.size + 1, 3, none⟩ t').heap.size = w2.heap.size := by simp [World.setCell]
  have oth : ∀ k, k ≠ w.heap.size + 1 → (w2.setCell ⟨w.heap.size + 1, 3, none⟩ t').heap[k]? = w2.heap[k]? := fun k hk => Below.heap_setCell _ _ _ _ hk
  refine ⟨hW.setNew (by omega) hP _ _, hP, ?_, ?_, ?_, ?_⟩
  · exact (oth _ (by omega)).trans ((same _ (by omega) (low _ (by omega))).trans hb.box)
  · have hv : At w2 (w.heap.size + 1) 26 #[.int .i64 5, .int .i64 0, .string ⟨#[]⟩, t, .slice none 0 0] := (same _ (by omega) (low _ (by omega))).trans hb.vbox
    exact heap_setCell_same w2 _ 3 _ _ t' hv
  · rw [List.length_append, flatV_append, flatV_one]
    refine World.ownsRow.kept hown (row := some (w.heap.size + 1)) ⟨rfl, rfl, rfl, by rw [sz]; exact Nat.le_refl _, fun k hk hne => oth k (fun e => hne (by rw [e]))⟩ ?_
    cases hv : t'.ownBlock with
    | none => exact .inl rfl
    | some g => exact .inr (fun e => by cases e; have := (hown.lt _ hv).1; omega)
  · intro o ho
    have new : ∀ k, k < b.heap.size → some k ≠ t.ownBlock → some k ≠ t'.ownBlock := fun k hk hne => by
      rcases hat with e | e
      · rw [e]; exact hne
      · rw [e]; intro e'; injection e' with e'; simp at e'; omega
    rcases List.mem_append.1 ho with ho | ho
    · refine ((hb.reps o ho).agree (by rw [sz]; omega) fun k hk => ?_).mono fun k hk => ⟨hk.1, by rw [sz]; have := hk.2.1; omega, new k hk.2.1 hk.2.2⟩
      rw [oth k (by have := hk.1; omega)]; exact same k hk.2.1 hk.2.2
    · rw [List.mem_singleton.1 ho]
      have apart : ∀ k, a.heap.size ≤ k → some k ≠ t.ownBlock := fun k hk e => by have := (h.own.lt k e.symm).2; omega
      refine (hx.agree (by rw [sz]; omega) fun k hk => ?_).mono fun k hk => ⟨by have := hk.1; omega, by rw [sz]; have := hk.2; omega, new k hk.2 (apart k hk.1)⟩
      rw [oth k (by have := hk.1; omega)]; exact same k hk.2 (apart k hk.1)
/-- The list as it stands in its block. -/
theorem Rowed.rep {P : Nat} {w a : World} {s : ByteArray} {j d : Nat} {t : Value} {O : List VC} (h : Rowed P w a s j d t O) (hl : O.length ≤ 1000) :
    RepIn (fun b => w.heap.size + 2 ≤ b ∧ b < a.heap.size) (d + 1) a ⟨5, 0, eB, O.map (·.1), []⟩ [.int .i64 5, .int .i64 0, .string eB, t, .slice none 0 0] :=
  repIn_list h.own h.reps hl (fun _ hb => ⟨hb.1, hb.2.1⟩) (fun g hg => h.own.lt g hg)
/-- Five cells, written one by one. -/
def set5 (w : World) (b : Nat) (v0 v1 v2 v3 v4 : Value) : World := ((((w.setCell ⟨b, 0, none⟩ v0).setCell ⟨b, 1, none⟩ v1).setCell ⟨b, 2, none⟩ v2).setCell ⟨b, 3, none⟩ v3).setCell ⟨b, 4, none⟩ v4
theorem At.five {w : World} {b : Nat} {T : TypeId} {u0 u1 u2 u3 u4 : Value} (h : At w b T #[u0, u1, u2, u3, u4]) (v0 v1 v2 v3 v4 : Value) : At (set5 w b v0 v1 v2 v3 v4) b T #[v0, v1, v2, v3, v4] := by
  have h0 := heap_setCell_same w b 0 _ _ v0 h
  have h1 := heap_setCell_same _ b 1 _ _ v1 h0
  have h2 := heap_setCell_same _ b 2 _ _ v2 h1
  have h3 := heap_setCell_same _ b 3 _ _ v3 h2
  exact heap_setCell_same _ b 4 _ _ v4 h3
theorem set5_size (w : World) (b : Nat) (v0 v1 v2 v3 v4 : Value) : (set5 w b v0 v1 v2 v3 v4).heap.size = w.heap.size := by simp [set5, World.setCell]
theorem set5_other (w : World) (b : Nat) (v0 v1 v2 v3 v4 : Value) {k : Nat} (h : k ≠ b) : (set5 w b v0 v1 v2 v3 v4).heap[k]? = w.heap[k]? := by
  unfold set5; rw [Below.heap_setCell _ _ _ _ h, Below.heap_setCell _ _ _ _ h, Below.heap_setCell _ _ _ _ h, Below.heap_setCell _ _ _ _ h, Below.heap_setCell _ _ _ _ h]
theorem five_cells {w : World} {b : Nat} {T : TypeId} {v0 v1 v2 v3 v4 : Value} (h : At w b T #[v0, v1, v2, v3, v4]) :
    (w.cell? ⟨b, 0, none⟩ = some v0 ∧ w.cell? ⟨b, 1, none⟩ = some v1 ∧ w.cell? ⟨b, 2, none⟩ = some v2 ∧ w.cell? ⟨b, 3, none⟩ = some v3 ∧ w.cell? ⟨b, 4, none⟩ = some v4) ∧
    (w.frozen? ⟨b, 0, none⟩ = false ∧ w.frozen? ⟨b, 1, none⟩ = false ∧ w.frozen? ⟨b, 2, none⟩ = false ∧ w.frozen? ⟨b, 3, none⟩ = false ∧ w.frozen? ⟨b, 4, none⟩ = false) :=
  ⟨⟨At.cell h 0, At.cell h 1, At.cell h 2, At.cell h 3, At.cell h 4⟩, At.free h 0, At.free h 1, At.free h 2, At.free h 3, At.free h 4⟩
/-- The answer's block is written. -/
theorem Rowed.fill {P : Nat} {w a : World} {s : ByteArray} {j d : Nat} {t : Value} {O : List VC} (h : Rowed P w a s j d t O) (hl : O.length ≤ 1000) (v0 v1 v2 v3 v4 : Value) {wf : World} (hf : wf = set5 a w.heap.size v0 v1 v2 v3 v4) :
    Moved P w wf s j ∧ At wf w.heap.size 26 #[v0, v1, v2, v3, v4] ∧ RepIn (fun b => w.heap.size ≤ b ∧ b < wf.heap.size) (d + 1) wf ⟨5, 0, eB, O.map (·.1), []⟩ [.int .i64 5, .int .i64 0, .string eB, t, .slice none 0 0] := by
  subst hf
  refine ⟨h.mov.set5 (Nat.le_refl _) h.lt _ _ _ _ _, At.five h.box _ _ _ _ _, ?_⟩
  refine ((h.rep hl).agree (by rw [set5_size]; exact Nat.le_refl _) fun b hb => set5_other _ _ _ _ _ _ _ (by have := hb.1; omega)).mono fun b hb => ⟨by have := hb.1; omega, by rw [set5_size]; exact hb.2⟩
end Go.Proofs.YtefbfgcbbpmhlabGreatDoor
