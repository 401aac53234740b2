/-
  A field that is set, by the document's answer: where the fields of the new row come from.
-/
import Derived.Test.YtfkjoppehbmomaaGreatDoorYm
import Derived.Test.YtfkjoppehbmomaaGreatDoorYu
namespace Go.Proofs.YtfkjoppehbmomaaGreatDoor
open Go.RowKit
set_option maxRecDepth 100000

/-- How far setting has come; what was laid has the property G. -/
structure LayG (G : FC → Prop) (wb : World) (name : ByteArray) (x : V) (f : List (ByteArray × V)) (t : Value) (laid : Bool) (j : Nat) (wr : World) (O : List FC) : Prop where
  own : wr.ownsRow wb.heap.size 54 6 t O.length (flatO O)
  ok : ∀ o ∈ O, G o
  below : Below wb.heap.size wb wr
  eq : O.map (·.1) ++ rsetF name x (f.drop j) laid = rsetF name x f false
  len : O.length ≤ j + 1
  len0 : laid = false → O.length ≤ j
theorem LayG.grow {G : FC → Prop} {wb : World} {name : ByteArray} {x : V} {f : List (ByteArray × V)} {t t' : Value} {laid laid' : Bool} {j j' : Nat} {wr w2 : World} {O : List FC} (h : LayG G wb name x f t laid j wr O) (o : FC) (ho : G o) {ob : Obj}
    (hown : w2.ownsRow wb.heap.size 54 6 t' (O.length + 1) (flatO O ++ o.cells)) (hg : (wr.alloc ob).grownBy w2 t.ownBlock) (he : O.map (·.1) ++ [o.1] ++ rsetF name x (f.drop j') laid' = rsetF name x f false) (hl : O.length + 1 ≤ j' + 1) (hl0 : laid' = false → O.length + 1 ≤ j') : LayG G wb name x f t' laid' j' w2 (O ++ [o]) := by
  refine ⟨?_, ?_, ?_, ?_, ?_, ?_⟩
  · rw [List.length_append, flatO_append, flatO_one]; exact hown
  · intro p hp
    rcases List.mem_append.1 hp with hp | hp
    · exact h.ok p hp
    · rw [List.mem_singleton.1 hp]; exact ho
  · exact (h.below.alloc h.below.size _).grown hg (by have := h.below.size; simp; omega) (fun k hk => (h.own.lt k hk).1)
  · rw [List.map_append]; exact he
  · rw [List.length_append]; exact hl
  · intro h; rw [List.length_append]; exact hl0 h
theorem ownsRow_base {w : World} {a b : Nat} {e : TypeId} {size : Nat} {v : Value} {n : Nat} {xs : List Value} (h : w.ownsRow b e size v n xs) (hab : a ≤ b) : w.ownsRow a e size v n xs := by
  obtain ⟨h1, h2 | ⟨g, cap, cur, r1, r2, r3⟩⟩ := h
  · exact ⟨h1, .inl h2⟩
  · exact ⟨h1, .inr ⟨g, cap, cur, r1, Nat.le_trans hab r2, r3⟩⟩
/-- What setting a field says. -/
def SetSaid (G : FC → Prop) (w : World) (v x : V) (name : ByteArray) (cs : List Value) (r : Ending) (w' : World) : Prop :=
  ∃ (al af : Option Addr) (cl cf : Nat) (O : List FC), r = .returned (.agg #[.int .i64 v.k, .int .i64 v.n, .string v.s, .slice al v.l.length cl, .slice af O.length cf]) ∧ (∃ af0 cf0, cs = [.int .i64 v.k, .int .i64 v.n, .string v.s, .slice al v.l.length cl, .slice af0 v.f.length cf0]) ∧ w'.ownsRow w.heap.size 54 6 (.slice af O.length cf) O.length (flatO O) ∧ O.map (·.1) = rsetF name x v.f false ∧ ∀ o ∈ O, G o
set_option maxHeartbeats 2000000 in
theorem rSetG {e : Nat} {w : World} {v x : V} {cs cx : List Value} (G : FC → Prop) (name : ByteArray) (hv : RepN (e + 1) w v cs) (hx : RepN (e + 1) w x cx) (hcn : v.f.length ≤ 1048576)
    (hGx : G ((name, x), cx)) (hG : ∀ (j : Nat) (q : ByteArray × V) (b off : Nat) (al : Option Addr) (cl : Nat) (cf : Nat) (c : List Value), cs = [.int .i64 v.k, .int .i64 v.n, .string v.s, .slice al v.l.length cl, .slice (some ⟨b, off, none⟩) v.f.length cf] → v.f[j]? = some q → CellsAt w b (off + j * 6 + 1) c → c.length = 5 → G (q, c)) :
    Calls Tryz.prog 87 #[.agg cs.toArray, .string name, .agg cx.toArray] w fun r w' => SetSaid G w v x name cs r w' ∧ Below w.heap.size w w' := by
  obtain ⟨iF, hiF, hf0, hf1, hf2⟩ := info_parts infoF
  obtain ⟨al, af, cl, cf, rfl, ⟨hs, hl, hf⟩, hL, hF⟩ := hv
  have HF := hid hF
  have HX := hid hGx
  have HGG := hid hG
  clear hGx hG
  obtain ⟨al2, af2, cl2, cf2, rfl, _⟩ := hx
  clear hL hF hs hl
  unfold maxLen at hf
  go_enter Tryz.func87, Tryz.ntmps87
  go_wp2_with fail
  have hbw : Below w.heap.size w (((w.alloc (.cells #[.int .i64 v.k, .int .i64 v.n, .string v.s, .slice al v.l.length cl, .slice af v.f.length cf] 26)).alloc (.cells #[.int .i64 x.k, .int .i64 x.n, .string x.s, .slice al2 x.l.length cl2, .slice af2 x.f.length cf2] 26)).alloc (.cells #[.int .i64 0, .int .i64 0, .string ⟨#[]⟩, .slice none 0 0, .slice none 0 0] 26)) := by go_grown
  have A1 := ((At.new w #[.int .i64 v.k, .int .i64 v.n, .string v.s, .slice al v.l.length cl, .slice af v.f.length cf] 26 rfl).alloc (.cells #[.int .i64 x.k, .int .i64 x.n, .string x.s, .slice al2 x.l.length cl2, .slice af2 x.f.length cf2] 26)).alloc (.cells #[.int .i64 0, .int .i64 0, .string ⟨#[]⟩, .slice none 0 0, .slice none 0 0] 26)
  have A2 := (At.new (w.alloc (.cells #[.int .i64 v.k, .int .i64 v.n, .string v.s, .slice al v.l.length cl, .slice af v.f.length cf] 26)) #[.int .i64 x.k, .int .i64 x.n, .string x.s, .slice al2 x.l.length cl2, .slice af2 x.f.length cf2] 26 (b := w.heap.size + 1) (by simp)).alloc (.cells #[.int .i64 0, .int .i64 0, .string ⟨#[]⟩, .slice none 0 0, .slice none 0 0] 26)
  have A3 := At.new ((w.alloc (.cells #[.int .i64 v.k, .int .i64 v.n, .string v.s, .slice al v.l.length cl, .slice af v.f.length cf] 26)).alloc (.cells #[.int .i64 x.k, .int .i64 x.n, .string x.s, .slice al2 x.l.length cl2, .slice af2 x.f.length cf2] 26)) #[.int .i64 0, .int .i64 0, .string ⟨#[]⟩, .slice none 0 0, .slice none 0 0] 26 (b := w.heap.size + 1 + 1) (by simp)
  generalize ((w.alloc (.cells #[.int .i64 v.k, .int .i64 v.n, .string v.s, .slice al v.l.length cl, .slice af v.f.length cf] 26)).alloc (.cells #[.int .i64 x.k, .int .i64 x.n, .string x.s, .slice al2 x.l.length cl2, .slice af2 x.f.length cf2] 26)).alloc (.cells #[.int .i64 0, .int .i64 0, .string ⟨#[]⟩, .slice none 0 0, .slice none 0 0] 26) = wb at *
  have HBW := hid hbw
  have hw1 := A1.lt
  have hw3 := A3.lt
  have HA := hid (And.intro A1 (And.intro A2 A3))
  clear hbw A1 A2 A3
  go_loopw [7, 8, 9] (fun t u i wr => ∃ (j : Nat) (laid : Bool) (O : List FC), i = .int .i64 j ∧ u = .bool laid ∧ j ≤ v.f.length ∧ LayG G wb name x v.f t laid j wr O) (fun _ _ i _ => v.f.length - (intOf i).toNat)
  case atStart => exact ⟨0, false, [], rfl, rfl, Nat.zero_le _, World.ownsRow_nil _ _ _ _, by simp, Below.refl _ _, by simp, by simp, by simp⟩
  case round =>
    obtain ⟨j, laid, O, rfl, rfl, hj, hY⟩ := hrel
    have HY := hid hY
    have hbs := hY.below.size
    have hOl := hY.len
    have hOl0 := hid hY.len0
    have m1 := (HA.out.1.later hY.below).cell
    have z1 := (HA.out.1.later hY.below).lt
    have m2 := (HA.out.2.1.later hY.below).cell
    have z2 := (HA.out.2.1.later hY.below).lt
    clear hY
    by_cases hjl : j < v.f.length
    · have hjl' : (j : Int) < v.f.length := by omega
      obtain ⟨b, off, c, rfl, hbl, hnl, hcn, hc, hr⟩ := HF.out j v.f[j] (List.getElem?_eq_getElem hjl)
      have hB0 : Below w.heap.size w wr := HBW.out.trans (HY.out.below.mono HBW.out.size)
      have hbr : b < wr.heap.size := Nat.lt_of_lt_of_le hbl hB0.size
      have hbb : b < wb.heap.size := Nat.lt_of_lt_of_le hbl HBW.out.size
      have HO := hid (show G (v.f[j], c) from HGG.out j v.f[j] b off al cl cf c rfl (List.getElem?_eq_getElem hjl) hc (rep_len hr))
      obtain ⟨k1, n1, s1, a1, l1, c1, a2, l2, c2, rfl, g0, g1, g2, g3, g4⟩ := rep_cells (hr.later hB0) (hc.later hbl hB0)
      have gn := (hB0.cell (p := ⟨b, off + j * 6, none⟩) hbl).trans hcn
      have HDR := hid (show v.f.drop j = v.f[j] :: v.f.drop (j + 1) from List.drop_eq_getElem_cons hjl)
      clear hr hc hcn hnl
      cases laid
      · cases hle : leB name v.f[j].1
        · have HLE := hid hle
          have hne : (v.f[j].1.toList == name.toList) = false := by
            cases hh : (v.f[j].1.toList == name.toList)
            · rfl
            · rw [leB_iff.2 (.inr (toList_eq (by simpa using hh)).symm)] at hle; cases hle
          have HNE := hid hne
          unfold leB at hle
          have HEa := hid (show O.map (·.1) ++ [v.f[j]] ++ rsetF name x (v.f.drop (j + 1)) false = rsetF name x v.f false by
            have h := HY.out.eq
            rw [HDR.out, rsetF, HNE.out, HLE.out] at h
            simpa using h)
          go_wp2_with (at_builtin; refine wpList_append_own _ rfl (.tmp 43) (.tmp 49) 24 rfl wb.heap.size 54 iF _ 6 96 Tryz.underlying24 hiF hf0 hf1 hf2 rfl (by decide) _ _ _ rfl (HY.out.own.alloc _) ⟨wr.heap.size, 0, none⟩ 1 1 [.string v.f[j].1, .int .i64 k1, .int .i64 n1, .string s1, .slice a1 l1 c1, .slice a2 l2 c2] rfl rfl (fun i u hi => news_at rfl i u hi) (by simp [Value.oneCell']) (by unfold maxLen; first | omega | (simp; omega)) (by first | omega | (simp; omega)) (by first | omega | (simp; omega)) ?_)
          intro va wa howna hgrowa _
          have HYa := hid (HY.out.grow _ HO.out (by simpa [FC.cells] using howna) hgrowa HEa.out (by have := hOl0.out (by first | rfl | trivial); omega) (fun _ => by have := hOl0.out (by first | rfl | trivial); omega))
          clear howna hgrowa
          go_wp2_with fail
          go_roundw
          case rel => exact ⟨j + 1, false, _, by go_num, rfl, by omega, HYa.out⟩
          case measure => simp [intOf]; omega
        · have HLE := hid hle
          cases hne : (v.f[j].1.toList == name.toList)
          all_goals
            have HNE := hid hne
            have HE1 := hid (show O.map (·.1) ++ [(name, x)] ++ rsetF name x (v.f.drop j) true = rsetF name x v.f false by
              have h := HY.out.eq
              rw [HDR.out, rsetF, HLE.out] at h
              rw [HDR.out, rsetF]
              simpa using h)
            unfold leB at hle
          · go_wp2_with (at_builtin; refine wpList_append_own _ rfl (.tmp 29) (.tmp 33) 24 rfl wb.heap.size 54 iF _ 6 96 Tryz.underlying24 hiF hf0 hf1 hf2 rfl (by decide) _ _ _ rfl (HY.out.own.alloc _) ⟨wr.heap.size, 0, none⟩ 1 1 [.string name, .int .i64 x.k, .int .i64 x.n, .string x.s, .slice al2 x.l.length cl2, .slice af2 x.f.length cf2] rfl rfl (fun i u hi => news_at rfl i u hi) (by simp [Value.oneCell']) (by unfold maxLen; first | omega | (simp; omega)) (by first | omega | (simp; omega)) (by first | omega | (simp; omega)) ?_)
            intro v2 w2 hown2 hgrow2 _
            have HY2 := hid (HY.out.grow (j' := j) (laid' := true) ((name, x), [.int .i64 x.k, .int .i64 x.n, .string x.s, .slice al2 x.l.length cl2, .slice af2 x.f.length cf2]) HX.out (by simpa [FC.cells] using hown2) hgrow2 HE1.out (by have := hOl0.out (by first | rfl | trivial); omega) (by simp))
            have hbs2 := HY2.out.below.size
            have p1 := (HA.out.1.later HY2.out.below).cell
            have p2 := (HA.out.1.later HY2.out.below).lt
            have hB2 : Below w.heap.size w w2 := HBW.out.trans (HY2.out.below.mono HBW.out.size)
            have q0 := (hB2.cell (p := ⟨b, off + j * 6 + 1, none⟩) hbl).trans ((hB0.cell (p := ⟨b, off + j * 6 + 1, none⟩) hbl).symm.trans g0)
            have q1 := (hB2.cell (p := ⟨b, off + j * 6 + 1 + 1, none⟩) hbl).trans ((hB0.cell (p := ⟨b, off + j * 6 + 1 + 1, none⟩) hbl).symm.trans g1)
            have q2 := (hB2.cell (p := ⟨b, off + j * 6 + 1 + 2, none⟩) hbl).trans ((hB0.cell (p := ⟨b, off + j * 6 + 1 + 2, none⟩) hbl).symm.trans g2)
            have q3 := (hB2.cell (p := ⟨b, off + j * 6 + 1 + 3, none⟩) hbl).trans ((hB0.cell (p := ⟨b, off + j * 6 + 1 + 3, none⟩) hbl).symm.trans g3)
            have q4 := (hB2.cell (p := ⟨b, off + j * 6 + 1 + 4, none⟩) hbl).trans ((hB0.cell (p := ⟨b, off + j * 6 + 1 + 4, none⟩) hbl).symm.trans g4)
            have qn := (hB2.cell (p := ⟨b, off + j * 6, none⟩) hbl).trans ((hB0.cell (p := ⟨b, off + j * 6, none⟩) hbl).symm.trans gn)
            have hbr2 : b < w2.heap.size := Nat.lt_of_lt_of_le hbl hB2.size
            clear hown2 hgrow2
            have HEc := hid (show (O ++ [((name, x), ([.int .i64 x.k, .int .i64 x.n, .string x.s, .slice al2 x.l.length cl2, .slice af2 x.f.length cf2] : List Value))]).map (·.1) ++ [v.f[j]] ++ rsetF name x (v.f.drop (j + 1)) true = rsetF name x v.f false by
              have h := HY2.out.eq
              rw [HDR.out, rsetF, HNE.out] at h
              simpa using h)
            go_wp2_with (at_builtin; refine wpList_append_own _ rfl (.tmp 43) (.tmp 49) 24 rfl wb.heap.size 54 iF _ 6 96 Tryz.underlying24 hiF hf0 hf1 hf2 rfl (by decide) _ _ _ rfl (HY2.out.own.alloc _) ⟨w2.heap.size, 0, none⟩ 1 1 [.string v.f[j].1, .int .i64 k1, .int .i64 n1, .string s1, .slice a1 l1 c1, .slice a2 l2 c2] rfl rfl (fun i u hi => news_at rfl i u hi) (by simp [Value.oneCell']) (by unfold maxLen; first | omega | (simp; omega)) (by first | omega | (simp; omega)) (by first | omega | (simp; omega)) ?_)
            intro vc wc hownc hgrowc _
            have HYc := hid (HY2.out.grow _ HO.out (by simpa [FC.cells] using hownc) hgrowc HEc.out (by have := HY2.out.len; simp at *; omega) (by simp))
            clear hownc hgrowc
            go_wp2_with fail
            go_roundw
            case rel => exact ⟨j + 1, true, _, by go_num, rfl, by omega, HYc.out⟩
            case measure => simp [intOf]; omega
          · go_wp2_with (at_builtin; refine wpList_append_own _ rfl (.tmp 29) (.tmp 33) 24 rfl wb.heap.size 54 iF _ 6 96 Tryz.underlying24 hiF hf0 hf1 hf2 rfl (by decide) _ _ _ rfl (HY.out.own.alloc _) ⟨wr.heap.size, 0, none⟩ 1 1 [.string name, .int .i64 x.k, .int .i64 x.n, .string x.s, .slice al2 x.l.length cl2, .slice af2 x.f.length cf2] rfl rfl (fun i u hi => news_at rfl i u hi) (by simp [Value.oneCell']) (by unfold maxLen; first | omega | (simp; omega)) (by first | omega | (simp; omega)) (by first | omega | (simp; omega)) ?_)
            intro v2 w2 hown2 hgrow2 _
            have HY2 := hid (HY.out.grow (j' := j) (laid' := true) ((name, x), [.int .i64 x.k, .int .i64 x.n, .string x.s, .slice al2 x.l.length cl2, .slice af2 x.f.length cf2]) HX.out (by simpa [FC.cells] using hown2) hgrow2 HE1.out (by have := hOl0.out (by first | rfl | trivial); omega) (by simp))
            have hbs2 := HY2.out.below.size
            have p1 := (HA.out.1.later HY2.out.below).cell
            have p2 := (HA.out.1.later HY2.out.below).lt
            have hB2 : Below w.heap.size w w2 := HBW.out.trans (HY2.out.below.mono HBW.out.size)
            have q0 := (hB2.cell (p := ⟨b, off + j * 6 + 1, none⟩) hbl).trans ((hB0.cell (p := ⟨b, off + j * 6 + 1, none⟩) hbl).symm.trans g0)
            have q1 := (hB2.cell (p := ⟨b, off + j * 6 + 1 + 1, none⟩) hbl).trans ((hB0.cell (p := ⟨b, off + j * 6 + 1 + 1, none⟩) hbl).symm.trans g1)
            have q2 := (hB2.cell (p := ⟨b, off + j * 6 + 1 + 2, none⟩) hbl).trans ((hB0.cell (p := ⟨b, off + j * 6 + 1 + 2, none⟩) hbl).symm.trans g2)
            have q3 := (hB2.cell (p := ⟨b, off + j * 6 + 1 + 3, none⟩) hbl).trans ((hB0.cell (p := ⟨b, off + j * 6 + 1 + 3, none⟩) hbl).symm.trans g3)
            have q4 := (hB2.cell (p := ⟨b, off + j * 6 + 1 + 4, none⟩) hbl).trans ((hB0.cell (p := ⟨b, off + j * 6 + 1 + 4, none⟩) hbl).symm.trans g4)
            have qn := (hB2.cell (p := ⟨b, off + j * 6, none⟩) hbl).trans ((hB0.cell (p := ⟨b, off + j * 6, none⟩) hbl).symm.trans gn)
            have hbr2 : b < w2.heap.size := Nat.lt_of_lt_of_le hbl hB2.size
            clear hown2 hgrow2
            have HYf := hid (show LayG G wb name x v.f _ true (j + 1) _ _ from ⟨HY2.out.own, HY2.out.ok, HY2.out.below, by
              have h := HY2.out.eq
              rw [HDR.out, rsetF, HNE.out] at h
              simpa using h, by have := HY2.out.len; omega, by simp⟩)
            go_wp2_with fail
            go_roundw
            case rel => exact ⟨j + 1, true, _, by go_num, rfl, by omega, HYf.out⟩
            case measure => simp [intOf]; omega
      · cases hne : (v.f[j].1.toList == name.toList)
        · have HNE := hid hne
          have HEg := hid (show O.map (·.1) ++ [v.f[j]] ++ rsetF name x (v.f.drop (j + 1)) true = rsetF name x v.f false by
            have h := HY.out.eq
            rw [HDR.out, rsetF, HNE.out] at h
            simpa using h)
          go_wp2_with (at_builtin; refine wpList_append_own _ rfl (.tmp 43) (.tmp 49) 24 rfl wb.heap.size 54 iF _ 6 96 Tryz.underlying24 hiF hf0 hf1 hf2 rfl (by decide) _ _ _ rfl (HY.out.own.alloc _) ⟨wr.heap.size, 0, none⟩ 1 1 [.string v.f[j].1, .int .i64 k1, .int .i64 n1, .string s1, .slice a1 l1 c1, .slice a2 l2 c2] rfl rfl (fun i u hi => news_at rfl i u hi) (by simp [Value.oneCell']) (by unfold maxLen; first | omega | (simp; omega)) (by first | omega | (simp; omega)) (by first | omega | (simp; omega)) ?_)
          intro vg wg howng hgrowg _
          have HYg := hid (HY.out.grow _ HO.out (by simpa [FC.cells] using howng) hgrowg HEg.out (by have := HY.out.len; simp at *; omega) (by simp))
          clear howng hgrowg
          go_wp2_with fail
          go_roundw
          case rel => exact ⟨j + 1, true, _, by go_num, rfl, by omega, HYg.out⟩
          case measure => simp [intOf]; omega
        · have HNE := hid hne
          have HYk := hid (show LayG G wb name x v.f _ true (j + 1) _ _ from ⟨HY.out.own, HY.out.ok, HY.out.below, by
            have h := HY.out.eq
            rw [HDR.out, rsetF, HNE.out] at h
            simpa using h, by have := HY.out.len; omega, by simp⟩)
          go_wp2_with fail
          go_roundw
          case rel => exact ⟨j + 1, true, _, by go_num, rfl, by omega, HYk.out⟩
          case measure => simp [intOf]; omega
    · have hjl' : ¬ (j : Int) < v.f.length := by omega
      have hje : v.f.drop j = [] := List.drop_eq_nil_of_le (by omega)
      have HJE := hid hje
      clear hje
      cases laid
      · go_wp2_with (at_builtin; refine wpList_append_own _ rfl (.tmp 53) (.tmp 57) 24 rfl wb.heap.size 54 iF _ 6 96 Tryz.underlying24 hiF hf0 hf1 hf2 rfl (by decide) _ _ _ rfl (HY.out.own.alloc _) ⟨wr.heap.size, 0, none⟩ 1 1 [.string name, .int .i64 x.k, .int .i64 x.n, .string x.s, .slice al2 x.l.length cl2, .slice af2 x.f.length cf2] rfl rfl (fun i u hi => news_at rfl i u hi) (by simp [Value.oneCell']) (by unfold maxLen; first | omega | (simp; omega)) (by first | omega | (simp; omega)) (by first | omega | (simp; omega)) ?_)
        intro v2 w2 hown2 hgrow2 _
        have HY2 := hid (HY.out.grow (j' := j) (laid' := true) ((name, x), [.int .i64 x.k, .int .i64 x.n, .string x.s, .slice al2 x.l.length cl2, .slice af2 x.f.length cf2]) HX.out (by simpa [FC.cells] using hown2) hgrow2 (by have h := HY.out.eq; rw [HJE.out] at h ⊢; simpa [rsetF] using h) (by have := hOl0.out (by first | rfl | trivial); omega) (by simp))
        clear hown2 hgrow2
        have HO1 := hid (show (O ++ [((name, x), ([.int .i64 x.k, .int .i64 x.n, .string x.s, .slice al2 x.l.length cl2, .slice af2 x.f.length cf2] : List Value))]).map (·.1) = rsetF name x v.f false from by have h := HY2.out.eq; rw [HJE.out] at h; simpa [rsetF] using h)
        obtain ⟨af3, cf3, rfl⟩ := own_slice6 HY2.out.own
        simp only [List.length_append, List.length_singleton] at *
        have A1 := HA.out.1.later HY2.out.below
        have A3 := HA.out.2.2.later HY2.out.below
        have c1 := A1.cell
        have l1 := A1.lt
        have f1 := A1.free
        have hR := (Below.heap_setCell w2 ⟨w.heap.size, 4, none⟩ (.slice af3 (O.length + 1) cf3) (w.heap.size + 1 + 1) (by simp; omega)).trans A3
        have l3 := A3.lt
        go_wp2_with (refine wpList_store_row rfl 26 (.tmp 6) (.tmp 61) rfl (w.heap.size + 1 + 1) #[.int .i64 v.k, .int .i64 v.n, .string v.s, .slice al v.l.length cl, .slice af3 (O.length + 1) cf3] rfl rfl 26 #[.int .i64 0, .int .i64 0, .string ⟨#[]⟩, .slice none 0 0, .slice none 0 0] hR (by kernel_rfl) rfl (by simp [Value.oneCell']) ?_)
        have rc := (At.setRow hR #[.int .i64 v.k, .int .i64 v.n, .string v.s, .slice al v.l.length cl, .slice af3 (O.length + 1) cf3]).cell
        have hBB : Below w.heap.size w ((w2.setCell ⟨w.heap.size, 4, none⟩ (.slice af3 (O.length + 1) cf3)).setRow (w.heap.size + 1 + 1) #[.int .i64 v.k, .int .i64 v.n, .string v.s, .slice al v.l.length cl, .slice af3 (O.length + 1) cf3]) := below_setRow ((HBW.out.trans (HY2.out.below.mono HBW.out.size)).setCell (p := ⟨w.heap.size, 4, none⟩) (Nat.le_refl _) _) (by omega) _
        refine bodyPost_ret (v := .agg #[.int .i64 v.k, .int .i64 v.n, .string v.s, .slice al v.l.length cl, .slice af3 (O.length + 1) cf3]) (by simp [results, Tryz.results87, go_sem, rc]) rfl ⟨⟨al, af3, cl, cf3, _, by simp, ⟨_, _, rfl⟩, ?_, HO1.out, HY2.out.ok⟩, hBB⟩
        have hfin := ownsRow_base (ownsRow_setRow_below (ownsRow_setCell_below HY2.out.own (a := ⟨w.heap.size, 4, none⟩) hw1 (.slice af3 (O.length + 1) cf3)) hw3 #[.int .i64 v.k, .int .i64 v.n, .string v.s, .slice al v.l.length cl, .slice af3 (O.length + 1) cf3]) HBW.out.size
        first | exact hfin | simpa only [List.length_append, List.length_singleton] using hfin
      · have HO1 := hid (show O.map (·.1) = rsetF name x v.f false from by have h := HY.out.eq; rw [HJE.out] at h; simpa [rsetF] using h)
        obtain ⟨af3, cf3, rfl⟩ := own_slice6 HY.out.own
        have A1 := HA.out.1.later HY.out.below
        have A3 := HA.out.2.2.later HY.out.below
        have c1 := A1.cell
        have l1 := A1.lt
        have f1 := A1.free
        have hR := (Below.heap_setCell wr ⟨w.heap.size, 4, none⟩ (.slice af3 O.length cf3) (w.heap.size + 1 + 1) (by simp; omega)).trans A3
        have l3 := A3.lt
        go_wp2_with (refine wpList_store_row rfl 26 (.tmp 6) (.tmp 61) rfl (w.heap.size + 1 + 1) #[.int .i64 v.k, .int .i64 v.n, .string v.s, .slice al v.l.length cl, .slice af3 O.length cf3] rfl rfl 26 #[.int .i64 0, .int .i64 0, .string ⟨#[]⟩, .slice none 0 0, .slice none 0 0] hR (by kernel_rfl) rfl (by simp [Value.oneCell']) ?_)
        have rc := (At.setRow hR #[.int .i64 v.k, .int .i64 v.n, .string v.s, .slice al v.l.length cl, .slice af3 O.length cf3]).cell
        have hBB : Below w.heap.size w ((wr.setCell ⟨w.heap.size, 4, none⟩ (.slice af3 O.length cf3)).setRow (w.heap.size + 1 + 1) #[.int .i64 v.k, .int .i64 v.n, .string v.s, .slice al v.l.length cl, .slice af3 O.length cf3]) := below_setRow ((HBW.out.trans (HY.out.below.mono HBW.out.size)).setCell (p := ⟨w.heap.size, 4, none⟩) (Nat.le_refl _) _) (by omega) _
        refine bodyPost_ret (v := .agg #[.int .i64 v.k, .int .i64 v.n, .string v.s, .slice al v.l.length cl, .slice af3 O.length cf3]) (by simp [results, Tryz.results87, go_sem, rc]) rfl ⟨⟨al, af3, cl, cf3, _, rfl, ⟨_, _, rfl⟩, ?_, HO1.out, HY.out.ok⟩, hBB⟩
        exact ownsRow_base (ownsRow_setRow_below (ownsRow_setCell_below HY.out.own (a := ⟨w.heap.size, 4, none⟩) hw1 _) hw3 _) HBW.out.size
end Go.Proofs.YtfkjoppehbmomaaGreatDoor
