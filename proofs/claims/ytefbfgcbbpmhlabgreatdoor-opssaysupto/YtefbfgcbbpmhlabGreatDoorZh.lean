/-
  Joined: Zd, Zg, Zh.
-/
import Derived.Test.YtefbfgcbbpmhlabGreatDoorYn
import Derived.Test.YtefbfgcbbpmhlabGreatDoorYv
import Derived.Test.YtefbfgcbbpmhlabGreatDoorZf

/-
  A field that is set, by the document's answer: where the fields of the new row come from.
-/
namespace Go.Proofs.YtefbfgcbbpmhlabGreatDoor
open Go.RowKit
set_option maxRecDepth 100000

/-- How far setting has come; what was laid has the property G. -/
structure LayG (G : FC → Prop) (wb : World) (name : ByteArray) (x : V) (f : List (ByteArray × V)) (t : Value) (laid : Bool) (j : Nat) (wr : World) (O : List FC) : Prop where
  own : wr.ownsRow wb.heap.size 91 6 t O.length (flatO O)
  ok : ∀ o ∈ O, G o
  below : Below wb.heap.size wb wr
  eq : O.map (·.1) ++ rsetF name x (f.drop j) laid = rsetF name x f false
  len : O.length ≤ j + 1
  len0 : laid = false → O.length ≤ j
theorem LayG.grow {G : FC → Prop} {wb : World} {name : ByteArray} {x : V} {f : List (ByteArray × V)} {t t' : Value} {laid laid' : Bool} {j j' : Nat} {wr w2 : World} {O : List FC} (h : LayG G wb name x f t laid j wr O) (o : FC) (ho : G o) {ob : Obj}
    (hown : w2.ownsRow wb.heap.size 91 6 t' (O.length + 1) (flatO O ++ o.cells)) (hg : (wr.alloc ob).grownBy w2 t.ownBlock) (he : O.map (·.1) ++ [o.1] ++ rsetF name x (f.drop j') laid' = rsetF name x f false) (hl : O.length + 1 ≤ j' + 1) (hl0 : laid' = false → O.length + 1 ≤ j') : LayG G wb name x f t' laid' j' w2 (O ++ [o]) := by
  refine ⟨?_, ?_, ?_, ?_, ?_, ?_⟩
  · rw [List.length_append, flatO_append, flatO_one]; exact hown
  · intro p hp
    rcases List.mem_append.1 hp with hp | hp
    · exact h.ok p hp
    · rw [List.mem_singleton.1 hp]; exact ho
  · exact (h.below.alloc h.below.size _).grown hg (by have := h.below.size; simp; omega) (fun k hk => (h.own.lt k hk).1)
  · rw [List.map_append]; exact he
  · rw [List.length_append]; exact hl
  · intro h; rw [List.length_append]; exact hl0 h
theorem ownsRow_base {w : World} {a b : Nat} {e : TypeId} {size : Nat} {v : Value} {n : Nat} {xs : List Value} (h : w.ownsRow b e size v n xs) (hab : a ≤ b) : w.ownsRow a e size v n xs := by
  obtain ⟨h1, h2 | ⟨g, cap, cur, r1, r2, r3⟩⟩ := h
  · exact ⟨h1, .inl h2⟩
  · exact ⟨h1, .inr ⟨g, cap, cur, r1, Nat.le_trans hab r2, r3⟩⟩
/-- What setting a field says. -/
def SetSaid (G : FC → Prop) (w : World) (v x : V) (name : ByteArray) (cs : List Value) (r : Ending) (w' : World) : Prop :=
  ∃ (al af : Option Addr) (cl cf : Nat) (O : List FC), r = .returned (.agg #[.int .i64 v.k, .int .i64 v.n, .string v.s, .slice al v.l.length cl, .slice af O.length cf]) ∧ (∃ af0 cf0, cs = [.int .i64 v.k, .int .i64 v.n, .string v.s, .slice al v.l.length cl, .slice af0 v.f.length cf0]) ∧ w'.ownsRow w.heap.size 91 6 (.slice af O.length cf) O.length (flatO O) ∧ O.map (·.1) = rsetF name x v.f false ∧ ∀ o ∈ O, G o
set_option maxHeartbeats 2000000 in
theorem rSetG {e : Nat} {w : World} {v x : V} {cs cx : List Value} (G : FC → Prop) (name : ByteArray) (hv : RepN (e + 1) w v cs) (hx : RepN (e + 1) w x cx) (hcn : v.f.length ≤ 1048576)
    (hGx : G ((name, x), cx)) (hG : ∀ (j : Nat) (q : ByteArray × V) (b off : Nat) (al : Option Addr) (cl : Nat) (cf : Nat) (c : List Value), cs = [.int .i64 v.k, .int .i64 v.n, .string v.s, .slice al v.l.length cl, .slice (some ⟨b, off, none⟩) v.f.length cf] → v.f[j]? = some q → CellsAt w b (off + j * 6 + 1) c → c.length = 5 → G (q, c)) :
    Calls Tryz.prog 43 #[.agg cs.toArray, .string name, .agg cx.toArray] w fun r w' => SetSaid G w v x name cs r w' ∧ Below w.heap.size w w' := by
  obtain ⟨iF, hiF, hf0, hf1, hf2⟩ := info_parts infoF
  obtain ⟨al, af, cl, cf, rfl, ⟨hs, hl, hf⟩, hL, hF⟩ := hv
  have HF := hid hF
  have HX := hid hGx
  have HGG := hid hG
  clear hGx hG
  obtain ⟨al2, af2, cl2, cf2, rfl, _⟩ := hx
  clear hL hF hs hl
  unfold maxLen at hf
  go_enter Tryz.func43, Tryz.ntmps43
  go_wp2_with fail
  have hbw : Below w.heap.size w (((w.alloc (.cells #[.int .i64 v.k, .int .i64 v.n, .string v.s, .slice al v.l.length cl, .slice af v.f.length cf] 26)).alloc (.cells #[.int .i64 x.k, .int .i64 x.n, .string x.s, .slice al2 x.l.length cl2, .slice af2 x.f.length cf2] 26)).alloc (.cells #[.int .i64 0, .int .i64 0, .string ⟨#[]⟩, .slice none 0 0, .slice none 0 0] 26)) := by go_grown
  have A1 := ((At.new w #[.int .i64 v.k, .int .i64 v.n, .string v.s, .slice al v.l.length cl, .slice af v.f.length cf] 26 rfl).alloc (.cells #[.int .i64 x.k, .int .i64 x.n, .string x.s, .slice al2 x.l.length cl2, .slice af2 x.f.length cf2] 26)).alloc (.cells #[.int .i64 0, .int .i64 0, .string ⟨#[]⟩, .slice none 0 0, .slice none 0 0] 26)
  have A2 := (At.new (w.alloc (.cells #[.int .i64 v.k, .int .i64 v.n, .string v.s, .slice al v.l.length cl, .slice af v.f.length cf] 26)) #[.int .i64 x.k, .int .i64 x.n, .string x.s, .slice al2 x.l.length cl2, .slice af2 x.f.length cf2] 26 (b := w.heap.size + 1) (by simp)).alloc (.cells #[.int .i64 0, .int .i64 0, .string ⟨#[]⟩, .slice none 0 0, .slice none 0 0] 26)
  have A3 := At.new ((w.alloc (.cells #[.int .i64 v.k, .int .i64 v.n, .string v.s, .slice al v.l.length cl, .slice af v.f.length cf] 26)).alloc (.cells #[.int .i64 x.k, .int .i64 x.n, .string x.s, .slice al2 x.l.length cl2, .slice af2 x.f.length cf2] 26)) #[.int .i64 0, .int .i64 0, .string ⟨#[]⟩, .slice none 0 0, .slice none 0 0] 26 (b := w.heap.size + 1 + 1) (by simp)
  generalize ((w.alloc (.cells #[.int .i64 v.k, .int .i64 v.n, .string v.s, .slice al v.l.length cl, .slice af v.f.length cf] 26)).alloc (.cells #[.int .i64 x.k, .int .i64 x.n, .string x.s, .slice al2 x.l.length cl2, .slice af2 x.f.length cf2] 26)).alloc (.cells #[.int .i64 0, .int .i64 0, .string ⟨#[]⟩, .slice none 0 0, .slice none 0 0] 26) = wb at *
  have HBW := hid hbw
  have hw1 := A1.lt
  have hw3 := A3.lt
  have HA := hid (And.intro A1 (And.intro A2 A3))
  clear hbw A1 A2 A3
  go_loopw [7, 8, 9] (fun t u i wr => ∃ (j : Nat) (laid : Bool) (O : List FC), i = .int .i64 j ∧ u = .bool laid ∧ j ≤ v.f.length ∧ LayG G wb name x v.f t laid j wr O) (fun _ _ i _ => v.f.length - (intOf i).toNat)
  case atStart => exact ⟨0, false, [], rfl, rfl, Nat.zero_le _, World.ownsRow_nil _ _ _ _, by simp, Below.refl _ _, by simp, by simp, by simp⟩
  case round =>
    obtain ⟨j, laid, O, rfl, rfl, hj, hY⟩ := hrel
    have HY := hid hY
    have hbs := hY.below.size
    have hOl := hY.len
    have hOl0 := hid hY.len0
    have m1 := (HA.out.1.later hY.below).cell
    have z1 := (HA.out.1.later hY.below).lt
    have m2 := (HA.out.2.1.later hY.below).cell
    have z2 := (HA.out.2.1.later hY.below).lt
    clear hY
    by_cases hjl : j < v.f.length
    · have hjl' : (j : Int) < v.f.length := by omega
      obtain ⟨b, off, c, rfl, hbl, hnl, hcn, hc, hr⟩ := HF.out j v.f[j] (List.getElem?_eq_getElem hjl)
      have hB0 : Below w.heap.size w wr := HBW.out.trans (HY.out.below.mono HBW.out.size)
      have hbr : b < wr.heap.size := Nat.lt_of_lt_of_le hbl hB0.size
      have hbb : b < wb.heap.size := Nat.lt_of_lt_of_le hbl HBW.out.size
      have HO := hid (show G (v.f[j], c) from HGG.out j v.f[j] b off al cl cf c rfl (List.getElem?_eq_getElem hjl) hc (rep_len hr))
      obtain ⟨k1, n1, s1, a1, l1, c1, a2, l2, c2, rfl, g0, g1, g2, g3, g4⟩ := rep_cells (hr.later hB0) (hc.later hbl hB0)
      have gn := (hB0.cell (p := ⟨b, off + j * 6, none⟩) hbl).trans hcn
      have HDR := hid (show v.f.drop j = v.f[j] :: v.f.drop (j + 1) from List.drop_eq_getElem_cons hjl)
      clear hr hc hcn hnl
      cases laid
      · cases hle : leB name v.f[j].1
        · have HLE := hid hle
          have hne : (v.f[j].1.toList == name.toList) = false := by
            cases hh : (v.f[j].1.toList == name.toList)
            · rfl
            · rw [leB_iff.2 (.inr (toList_eq (by simpa using hh)).symm)] at hle; cases hle
          have HNE := hid hne
          unfold leB at hle
          have HEa := hid (show O.map (·.1) ++ [v.f[j]] ++ rsetF name x (v.f.drop (j + 1)) false = rsetF name x v.f false by
            have h := HY.out.eq
            rw [HDR.out, rsetF, HNE.out, HLE.out] at h
            simpa using h)
          go_wp2_with (at_builtin; refine wpList_append_own _ rfl (.tmp 43) (.tmp 49) 24 rfl wb.heap.size 91 iF _ 6 96 Tryz.underlying24 hiF hf0 hf1 hf2 rfl (by decide) _ _ _ rfl (HY.out.own.alloc _) ⟨wr.heap.size, 0, none⟩ 1 1 [.string v.f[j].1, .int .i64 k1, .int .i64 n1, .string s1, .slice a1 l1 c1, .slice a2 l2 c2] rfl rfl (fun i u hi => news_at rfl i u hi) (by simp [Value.oneCell']) (by unfold maxLen; first | omega | (simp; omega)) (by first | omega | (simp; omega)) (by first | omega | (simp; omega)) ?_)
          intro va wa howna hgrowa _
          have HYa := hid (HY.out.grow _ HO.out (by simpa [FC.cells] using howna) hgrowa HEa.out (by have := hOl0.out (by first | rfl | trivial); omega) (fun _ => by have := hOl0.out (by first | rfl | trivial); omega))
          clear howna hgrowa
          go_wp2_with fail
          go_roundw
          case rel => exact ⟨j + 1, false, _, by go_num, rfl, by omega, HYa.out⟩
          case measure => simp [intOf]; omega
        · have HLE := hid hle
          cases hne : (v.f[j].1.toList == name.toList)
          all_goals
            have HNE := hid hne
            have HE1 := hid (show O.map (·.1) ++ [(name, x)] ++ rsetF name x (v.f.drop j) true = rsetF name x v.f false by
              have h := HY.out.eq
              rw [HDR.out, rsetF, HLE.out] at h
              rw [HDR.out, rsetF]
              simpa using h)
            unfold leB at hle
          · go_wp2_with (at_builtin; refine wpList_append_own _ rfl (.tmp 29) (.tmp 33) 24 rfl wb.heap.size 91 iF _ 6 96 Tryz.underlying24 hiF hf0 hf1 hf2 rfl (by decide) _ _ _ rfl (HY.out.own.alloc _) ⟨wr.heap.size, 0, none⟩ 1 1 [.string name, .int .i64 x.k, .int .i64 x.n, .string x.s, .slice al2 x.l.length cl2, .slice af2 x.f.length cf2] rfl rfl (fun i u hi => news_at rfl i u hi) (by simp [Value.oneCell']) (by unfold maxLen; first | omega | (simp; omega)) (by first | omega | (simp; omega)) (by first | omega | (simp; omega)) ?_)
            intro v2 w2 hown2 hgrow2 _
            have HY2 := hid (HY.out.grow (j' := j) (laid' := true) ((name, x), [.int .i64 x.k, .int .i64 x.n, .string x.s, .slice al2 x.l.length cl2, .slice af2 x.f.length cf2]) HX.out (by simpa [FC.cells] using hown2) hgrow2 HE1.out (by have := hOl0.out (by first | rfl | trivial); omega) (by simp))
            have hbs2 := HY2.out.below.size
            have p1 := (HA.out.1.later HY2.out.below).cell
            have p2 := (HA.out.1.later HY2.out.below).lt
            have hB2 : Below w.heap.size w w2 := HBW.out.trans (HY2.out.below.mono HBW.out.size)
            have q0 := (hB2.cell (p := ⟨b, off + j * 6 + 1, none⟩) hbl).trans ((hB0.cell (p := ⟨b, off + j * 6 + 1, none⟩) hbl).symm.trans g0)
            have q1 := (hB2.cell (p := ⟨b, off + j * 6 + 1 + 1, none⟩) hbl).trans ((hB0.cell (p := ⟨b, off + j * 6 + 1 + 1, none⟩) hbl).symm.trans g1)
            have q2 := (hB2.cell (p := ⟨b, off + j * 6 + 1 + 2, none⟩) hbl).trans ((hB0.cell (p := ⟨b, off + j * 6 + 1 + 2, none⟩) hbl).symm.trans g2)
            have q3 := (hB2.cell (p := ⟨b, off + j * 6 + 1 + 3, none⟩) hbl).trans ((hB0.cell (p := ⟨b, off + j * 6 + 1 + 3, none⟩) hbl).symm.trans g3)
            have q4 := (hB2.cell (p := ⟨b, off + j * 6 + 1 + 4, none⟩) hbl).trans ((hB0.cell (p := ⟨b, off + j * 6 + 1 + 4, none⟩) hbl).symm.trans g4)
            have qn := (hB2.cell (p := ⟨b, off + j * 6, none⟩) hbl).trans ((hB0.cell (p := ⟨b, off + j * 6, none⟩) hbl).symm.trans gn)
            have hbr2 : b < w2.heap.size := Nat.lt_of_lt_of_le hbl hB2.size
            clear hown2 hgrow2
            have HEc := hid (show (O ++ [((name, x), ([.int .i64 x.k, .int .i64 x.n, .string x.s, .slice al2 x.l.length cl2, .slice af2 x.f.length cf2] : List Value))]).map (·.1) ++ [v.f[j]] ++ rsetF name x (v.f.drop (j + 1)) true = rsetF name x v.f false by
              have h := HY2.out.eq
              rw [HDR.out, rsetF, HNE.out] at h
              simpa using h)
            go_wp2_with (at_builtin; refine wpList_append_own _ rfl (.tmp 43) (.tmp 49) 24 rfl wb.heap.size 91 iF _ 6 96 Tryz.underlying24 hiF hf0 hf1 hf2 rfl (by decide) _ _ _ rfl (HY2.out.own.alloc _) ⟨w2.heap.size, 0, none⟩ 1 1 [.string v.f[j].1, .int .i64 k1, .int .i64 n1, .string s1, .slice a1 l1 c1, .slice a2 l2 c2] rfl rfl (fun i u hi => news_at rfl i u hi) (by simp [Value.oneCell']) (by unfold maxLen; first | omega | (simp; omega)) (by first | omega | (simp; omega)) (by first | omega | (simp; omega)) ?_)
            intro vc wc hownc hgrowc _
            have HYc := hid (HY2.out.grow _ HO.out (by simpa [FC.cells] using hownc) hgrowc HEc.out (by have := HY2.out.len; simp at *; omega) (by simp))
            clear hownc hgrowc
            go_wp2_with fail
            go_roundw
            case rel => exact ⟨j + 1, true, _, by go_num, rfl, by omega, HYc.out⟩
            case measure => simp [intOf]; omega
          · go_wp2_with (at_builtin; refine wpList_append_own _ rfl (.tmp 29) (.tmp 33) 24 rfl wb.heap.size 91 iF _ 6 96 Tryz.underlying24 hiF hf0 hf1 hf2 rfl (by decide) _ _ _ rfl (HY.out.own.alloc _) ⟨wr.heap.size, 0, none⟩ 1 1 [.string name, .int .i64 x.k, .int .i64 x.n, .string x.s, .slice al2 x.l.length cl2, .slice af2 x.f.length cf2] rfl rfl (fun i u hi => news_at rfl i u hi) (by simp [Value.oneCell']) (by unfold maxLen; first | omega | (simp; omega)) (by first | omega | (simp; omega)) (by first | omega | (simp; omega)) ?_)
            intro v2 w2 hown2 hgrow2 _
            have HY2 := hid (HY.out.grow (j' := j) (laid' := true) ((name, x), [.int .i64 x.k, .int .i64 x.n, .string x.s, .slice al2 x.l.length cl2, .slice af2 x.f.length cf2]) HX.out (by simpa [FC.cells] using hown2) hgrow2 HE1.out (by have := hOl0.out (by first | rfl | trivial); omega) (by simp))
            have hbs2 := HY2.out.below.size
            have p1 := (HA.out.1.later HY2.out.below).cell
            have p2 := (HA.out.1.later HY2.out.below).lt
            have hB2 : Below w.heap.size w w2 := HBW.out.trans (HY2.out.below.mono HBW.out.size)
            have q0 := (hB2.cell (p := ⟨b, off + j * 6 + 1, none⟩) hbl).trans ((hB0.cell (p := ⟨b, off + j * 6 + 1, none⟩) hbl).symm.trans g0)
            have q1 := (hB2.cell (p := ⟨b, off + j * 6 + 1 + 1, none⟩) hbl).trans ((hB0.cell (p := ⟨b, off + j * 6 + 1 + 1, none⟩) hbl).symm.trans g1)
            have q2 := (hB2.cell (p := ⟨b, off + j * 6 + 1 + 2, none⟩) hbl).trans ((hB0.cell (p := ⟨b, off + j * 6 + 1 + 2, none⟩) hbl).symm.trans g2)
            have q3 := (hB2.cell (p := ⟨b, off + j * 6 + 1 + 3, none⟩) hbl).trans ((hB0.cell (p := ⟨b, off + j * 6 + 1 + 3, none⟩) hbl).symm.trans g3)
            have q4 := (hB2.cell (p := ⟨b, off + j * 6 + 1 + 4, none⟩) hbl).trans ((hB0.cell (p := ⟨b, off + j * 6 + 1 + 4, none⟩) hbl).symm.trans g4)
            have qn := (hB2.cell (p := ⟨b, off + j * 6, none⟩) hbl).trans ((hB0.cell (p := ⟨b, off + j * 6, none⟩) hbl).symm.trans gn)
            have hbr2 : b < w2.heap.size := Nat.lt_of_lt_of_le hbl hB2.size
            clear hown2 hgrow2
            have HYf := hid (show LayG G wb name x v.f _ true (j + 1) _ _ from ⟨HY2.out.own, HY2.out.ok, HY2.out.below, by
              have h := HY2.out.eq
              rw [HDR.out, rsetF, HNE.out] at h
              simpa using h, by have := HY2.out.len; omega, by simp⟩)
            go_wp2_with fail
            go_roundw
            case rel => exact ⟨j + 1, true, _, by go_num, rfl, by omega, HYf.out⟩
            case measure => simp [intOf]; omega
      · cases hne : (v.f[j].1.toList == name.toList)
        · have HNE := hid hne
          have HEg := hid (show O.map (·.1) ++ [v.f[j]] ++ rsetF name x (v.f.drop (j + 1)) true = rsetF name x v.f false by
            have h := HY.out.eq
            rw [HDR.out, rsetF, HNE.out] at h
            simpa using h)
          go_wp2_with (at_builtin; refine wpList_append_own _ rfl (.tmp 43) (.tmp 49) 24 rfl wb.heap.size 91 iF _ 6 96 Tryz.underlying24 hiF hf0 hf1 hf2 rfl (by decide) _ _ _ rfl (HY.out.own.alloc _) ⟨wr.heap.size, 0, none⟩ 1 1 [.string v.f[j].1, .int .i64 k1, .int .i64 n1, .string s1, .slice a1 l1 c1, .slice a2 l2 c2] rfl rfl (fun i u hi => news_at rfl i u hi) (by simp [Value.oneCell']) (by unfold maxLen; first | omega | (simp; omega)) (by first | omega | (simp; omega)) (by first | omega | (simp; omega)) ?_)
          intro vg wg howng hgrowg _
          have HYg := hid (HY.out.grow _ HO.out (by simpa [FC.cells] using howng) hgrowg HEg.out (by have := HY.out.len; simp at *; omega) (by simp))
          clear howng hgrowg
          go_wp2_with fail
          go_roundw
          case rel => exact ⟨j + 1, true, _, by go_num, rfl, by omega, HYg.out⟩
          case measure => simp [intOf]; omega
        · have HNE := hid hne
          have HYk := hid (show LayG G wb name x v.f _ true (j + 1) _ _ from ⟨HY.out.own, HY.out.ok, HY.out.below, by
            have h := HY.out.eq
            rw [HDR.out, rsetF, HNE.out] at h
            simpa using h, by have := HY.out.len; omega, by simp⟩)
          go_wp2_with fail
          go_roundw
          case rel => exact ⟨j + 1, true, _, by go_num, rfl, by omega, HYk.out⟩
          case measure => simp [intOf]; omega
    · have hjl' : ¬ (j : Int) < v.f.length := by omega
      have hje : v.f.drop j = [] := List.drop_eq_nil_of_le (by omega)
      have HJE := hid hje
      clear hje
      cases laid
      · go_wp2_with (at_builtin; refine wpList_append_own _ rfl (.tmp 53) (.tmp 57) 24 rfl wb.heap.size 91 iF _ 6 96 Tryz.underlying24 hiF hf0 hf1 hf2 rfl (by decide) _ _ _ rfl (HY.out.own.alloc _) ⟨wr.heap.size, 0, none⟩ 1 1 [.string name, .int .i64 x.k, .int .i64 x.n, .string x.s, .slice al2 x.l.length cl2, .slice af2 x.f.length cf2] rfl rfl (fun i u hi => news_at rfl i u hi) (by simp [Value.oneCell']) (by unfold maxLen; first | omega | (simp; omega)) (by first | omega | (simp; omega)) (by first | omega | (simp; omega)) ?_)
        intro v2 w2 hown2 hgrow2 _
        have HY2 := hid (HY.out.grow (j' := j) (laid' := true) ((name, x), [.int .i64 x.k, .int .i64 x.n, .string x.s, .slice al2 x.l.length cl2, .slice af2 x.f.length cf2]) HX.out (by simpa [FC.cells] using hown2) hgrow2 (by have h := HY.out.eq; rw [HJE.out] at h ⊢; simpa [rsetF] using h) (by have := hOl0.out (by first | rfl | trivial); omega) (by simp))
        clear hown2 hgrow2
        have HO1 := hid (show (O ++ [((name, x), ([.int .i64 x.k, .int .i64 x.n, .string x.s, .slice al2 x.l.length cl2, .slice af2 x.f.length cf2] : List Value))]).map (·.1) = rsetF name x v.f false from by have h := HY2.out.eq; rw [HJE.out] at h; simpa [rsetF] using h)
        obtain ⟨af3, cf3, rfl⟩ := own_slice6 HY2.out.own
        simp only [List.length_append, List.length_singleton] at *
        have A1 := HA.out.1.later HY2.out.below
        have A3 := HA.out.2.2.later HY2.out.below
        have c1 := A1.cell
        have l1 := A1.lt
        have f1 := A1.free
        have hR := (Below.heap_setCell w2 ⟨w.heap.size, 4, none⟩ (.slice af3 (O.length + 1) cf3) (w.heap.size + 1 + 1) (by simp; omega)).trans A3
        have l3 := A3.lt
        go_wp2_with (refine wpList_store_row rfl 26 (.tmp 6) (.tmp 61) rfl (w.heap.size + 1 + 1) #[.int .i64 v.k, .int .i64 v.n, .string v.s, .slice al v.l.length cl, .slice af3 (O.length + 1) cf3] rfl rfl 26 #[.int .i64 0, .int .i64 0, .string ⟨#[]⟩, .slice none 0 0, .slice none 0 0] hR (by kernel_rfl) rfl (by simp [Value.oneCell']) ?_)
        have rc := (At.setRow hR #[.int .i64 v.k, .int .i64 v.n, .string v.s, .slice al v.l.length cl, .slice af3 (O.length + 1) cf3]).cell
        have hBB : Below w.heap.size w ((w2.setCell ⟨w.heap.size, 4, none⟩ (.slice af3 (O.length + 1) cf3)).setRow (w.heap.size + 1 + 1) #[.int .i64 v.k, .int .i64 v.n, .string v.s, .slice al v.l.length cl, .slice af3 (O.length + 1) cf3]) := below_setRow ((HBW.out.trans (HY2.out.below.mono HBW.out.size)).setCell (p := ⟨w.heap.size, 4, none⟩) (Nat.le_refl _) _) (by omega) _
        refine bodyPost_ret (v := .agg #[.int .i64 v.k, .int .i64 v.n, .string v.s, .slice al v.l.length cl, .slice af3 (O.length + 1) cf3]) (by simp [results, Tryz.results43, go_sem, rc]) rfl ⟨⟨al, af3, cl, cf3, _, by simp, ⟨_, _, rfl⟩, ?_, HO1.out, HY2.out.ok⟩, hBB⟩
        have hfin := ownsRow_base (ownsRow_setRow_below (ownsRow_setCell_below HY2.out.own (a := ⟨w.heap.size, 4, none⟩) hw1 (.slice af3 (O.length + 1) cf3)) hw3 #[.int .i64 v.k, .int .i64 v.n, .string v.s, .slice al v.l.length cl, .slice af3 (O.length + 1) cf3]) HBW.out.size
        first | exact hfin | simpa only [List.length_append, List.length_singleton] using hfin
      · have HO1 := hid (show O.map (·.1) = rsetF name x v.f false from by have h := HY.out.eq; rw [HJE.out] at h; simpa [rsetF] using h)
        obtain ⟨af3, cf3, rfl⟩ := own_slice6 HY.out.own
        have A1 := HA.out.1.later HY.out.below
        have A3 := HA.out.2.2.later HY.out.below
        have c1 := A1.cell
        have l1 := A1.lt
        have f1 := A1.free
        have hR := (Below.heap_setCell wr ⟨w.heap.size, 4, none⟩ (.slice af3 O.length cf3) (w.heap.size + 1 + 1) (by simp; omega)).trans A3
        have l3 := A3.lt
        go_wp2_with (refine wpList_store_row rfl 26 (.tmp 6) (.tmp 61) rfl (w.heap.size + 1 + 1) #[.int .i64 v.k, .int .i64 v.n, .string v.s, .slice al v.l.length cl, .slice af3 O.length cf3] rfl rfl 26 #[.int .i64 0, .int .i64 0, .string ⟨#[]⟩, .slice none 0 0, .slice none 0 0] hR (by kernel_rfl) rfl (by simp [Value.oneCell']) ?_)
        have rc := (At.setRow hR #[.int .i64 v.k, .int .i64 v.n, .string v.s, .slice al v.l.length cl, .slice af3 O.length cf3]).cell
        have hBB : Below w.heap.size w ((wr.setCell ⟨w.heap.size, 4, none⟩ (.slice af3 O.length cf3)).setRow (w.heap.size + 1 + 1) #[.int .i64 v.k, .int .i64 v.n, .string v.s, .slice al v.l.length cl, .slice af3 O.length cf3]) := below_setRow ((HBW.out.trans (HY.out.below.mono HBW.out.size)).setCell (p := ⟨w.heap.size, 4, none⟩) (Nat.le_refl _) _) (by omega) _
        refine bodyPost_ret (v := .agg #[.int .i64 v.k, .int .i64 v.n, .string v.s, .slice al v.l.length cl, .slice af3 O.length cf3]) (by simp [results, Tryz.results43, go_sem, rc]) rfl ⟨⟨al, af3, cl, cf3, _, rfl, ⟨_, _, rfl⟩, ?_, HO1.out, HY.out.ok⟩, hBB⟩
        exact ownsRow_base (ownsRow_setRow_below (ownsRow_setCell_below HY.out.own (a := ⟨w.heap.size, 4, none⟩) hw1 _) hw3 _) HBW.out.size
end Go.Proofs.YtefbfgcbbpmhlabGreatDoor

/-
  Reading, the document's answer: a dictionary that is being read.
-/
namespace Go.Proofs.YtefbfgcbbpmhlabGreatDoor
open Go.RowKit
set_option maxRecDepth 100000

theorem rsetF_len (name : ByteArray) (x : V) : ∀ (l : List (ByteArray × V)) (b : Bool), (getF name l).isSome = false → (rsetF name x l b).length = l.length + (if b then 0 else 1)
  | [], b, _ => by cases b <;> simp [rsetF]
  | q :: l, b, h => by
    have hn : (q.1.toList == name.toList) = false := by
      cases hh : (q.1.toList == name.toList)
      · rfl
      · rw [getF_some (i := 0) (q := q) rfl hh (fun j s hj => by omega)] at h; cases h
    have hl : (getF name l).isSome = false := by
      rw [getF, hn] at h; exact h
    have ih := rsetF_len name x l (b || leB name q.1) hl
    rw [rsetF, hn]
    simp only [List.length_append, ih]
    cases b <;> cases leB name q.1 <;> simp <;> omega
/-- A dictionary that the answer is reading. -/
structure DictA (w wr : World) (d : Nat) (t : Value) (O : List FC) : Prop where
  below : Below w.heap.size w wr
  box : At wr w.heap.size 26 (vc 0 0 ⟨#[]⟩)
  vbox : At wr (w.heap.size + 1) 26 #[.int .i64 6, .int .i64 0, .string ⟨#[]⟩, .slice none 0 0, t]
  own : wr.ownsRow (w.heap.size + 2) 91 6 t O.length (flatO O)
  reps : ∀ o ∈ O, o.1.1.size ≤ 200 ∧ RepIn (fun b => w.heap.size + 2 ≤ b ∧ b < wr.heap.size) d wr o.1.2 o.2
theorem DictA.size {w a : World} {d : Nat} {t : Value} {O : List FC} (h : DictA w a d t O) : w.heap.size + 2 ≤ a.heap.size := At.lt h.vbox
theorem ownsRow_later {a b : World} {base : Nat} {T : TypeId} {n m : Nat} {t : Value} {xs : List Value} (h : a.ownsRow base T n t m xs) (hb : Below a.heap.size a b) : b.ownsRow base T n t m xs := by
  refine World.ownsRow.kept h (row := none) ⟨hb.os, hb.tape, hb.output, hb.size, fun k hk _ => hb.block k hk⟩ ?_
  cases hv : t.ownBlock with
  | none => exact .inl rfl
  | some g => exact .inr (by simp)
theorem DictA.later {w a b : World} {d : Nat} {t : Value} {O : List FC} (h : DictA w a d t O) (m : Below a.heap.size a b) : DictA w b d t O := by
  have hs := h.size
  refine ⟨h.below.trans (m.mono (by omega)), At.later h.box m, At.later h.vbox m, ownsRow_later h.own m, fun o ho => ⟨(h.reps o ho).1, ?_⟩⟩
  exact ((h.reps o ho).2.agree m.size fun b hb => m.block b hb.2).mono fun b hb => ⟨hb.1, Nat.lt_of_lt_of_le hb.2 m.size⟩
theorem DictA.cells {w a : World} {d : Nat} {t : Value} {O : List FC} (h : DictA w a d t O) :
    (a.cell? ⟨w.heap.size + 1, 0, none⟩ = some (.int .i64 6) ∧ a.cell? ⟨w.heap.size + 1, 1, none⟩ = some (.int .i64 0) ∧ a.cell? ⟨w.heap.size + 1, 2, none⟩ = some (.string ⟨#[]⟩) ∧ a.cell? ⟨w.heap.size + 1, 3, none⟩ = some (.slice none 0 0) ∧ a.cell? ⟨w.heap.size + 1, 4, none⟩ = some t) ∧
    (a.frozen? ⟨w.heap.size + 1, 0, none⟩ = false ∧ a.frozen? ⟨w.heap.size + 1, 1, none⟩ = false ∧ a.frozen? ⟨w.heap.size + 1, 2, none⟩ = false ∧ a.frozen? ⟨w.heap.size + 1, 3, none⟩ = false ∧ a.frozen? ⟨w.heap.size + 1, 4, none⟩ = false) := five_cells h.vbox
theorem DictA.rep {w a : World} {d : Nat} {t : Value} {O : List FC} (h : DictA w a d t O) (hl : O.length ≤ 1000) :
    RepIn (fun b => w.heap.size + 2 ≤ b ∧ b < a.heap.size) (d + 1) a ⟨6, 0, eB, [], O.map (·.1)⟩ [.int .i64 6, .int .i64 0, .string eB, .slice none 0 0, t] :=
  repIn_dict h.own h.reps hl (fun _ hb => hb) (fun g hg => h.own.lt g hg)
theorem DictA.fill {w a : World} {d : Nat} {t : Value} {O : List FC} (h : DictA w a d t O) (hl : O.length ≤ 1000) (v0 v1 v2 v3 v4 : Value) {wf : World} (hf : wf = set5 a w.heap.size v0 v1 v2 v3 v4) :
    Below w.heap.size w wf ∧ At wf w.heap.size 26 #[v0, v1, v2, v3, v4] ∧ RepIn (fun b => w.heap.size ≤ b ∧ b < wf.heap.size) (d + 1) wf ⟨6, 0, eB, [], O.map (·.1)⟩ [.int .i64 6, .int .i64 0, .string eB, .slice none 0 0, t] := by
  subst hf
  refine ⟨below_set5 h.below (Nat.le_refl _) _ _ _ _ _, At.five h.box _ _ _ _ _, ?_⟩
  refine ((h.rep hl).agree (by rw [set5_size]; exact Nat.le_refl _) fun b hb => set5_other _ _ _ _ _ _ _ (by have := hb.1; omega)).mono fun b hb => ⟨by have := hb.1; omega, by rw [set5_size]; exact hb.2⟩
/-- The dictionary's block holds a new row. -/
theorem DictA.set {w a b wz : World} {d : Nat} {t t' : Value} {O O' : List FC} (h : DictA w a d t O) (m : Below a.heap.size a b) (hown : b.ownsRow a.heap.size 91 6 t' O'.length (flatO O')) (hG : ∀ o ∈ O', o.1.1.size ≤ 200 ∧ RepIn (fun g => w.heap.size + 2 ≤ g ∧ g < a.heap.size) d a o.1.2 o.2)
    (h1 : Below w.heap.size w wz) (hos : wz.os = b.os ∧ wz.tape = b.tape ∧ wz.output = b.output) (sz : wz.heap.size = b.heap.size) (oth : ∀ k, k ≠ w.heap.size + 1 → wz.heap[k]? = b.heap[k]?) (h3 : At wz (w.heap.size + 1) 26 #[.int .i64 6, .int .i64 0, .string ⟨#[]⟩, .slice none 0 0, t']) : DictA w wz d t' O' := by
  have has := h.size
  have hb := h.later m
  have hms := m.size
  refine ⟨h1, (oth w.heap.size (by omega)).trans hb.box, h3, ?_, fun o ho => ⟨(hG o ho).1, ?_⟩⟩
  · refine ownsRow_base (World.ownsRow.kept hown (row := some (w.heap.size + 1)) ⟨hos.1, hos.2.1, hos.2.2, by rw [sz]; exact Nat.le_refl _, fun k hk hne => oth k (fun e => hne (by rw [e]))⟩ ?_) has
    cases hv : t'.ownBlock with
    | none => exact .inl rfl
    | some g => exact .inr (fun e => by cases e; have := (hown.lt _ hv).1; omega)
  · refine ((hG o ho).2.agree (by rw [sz]; exact hms) fun k hk => ?_).mono fun k hk => ⟨hk.1, by rw [sz]; have := hk.2; omega⟩
    rw [oth k (by have := hk.1; omega)]; exact m.block k hk.2
set_option maxHeartbeats 1000000 in
/-- A field that is set in a dictionary that is being read. -/
theorem dSet {w a : World} {d : Nat} {al : Option Addr} {cl : Nat} {O : List FC} {x : V} {cx : List Value} (name : ByteArray) (hO : O.length ≤ 300) (hn : name.size ≤ 200) (h : DictA w a d (.slice al O.length cl) O) (hx : RepIn (fun g => w.heap.size + 2 ≤ g ∧ g < a.heap.size) d a x cx) (hg : (getF name (O.map (·.1))).isSome = false) :
    Calls Tryz.prog 43 #[.agg #[.int .i64 6, .int .i64 0, .string ⟨#[]⟩, .slice none 0 0, .slice al O.length cl], .string name, .agg cx.toArray] a fun r b => ∃ (af : Option Addr) (cf : Nat) (O' : List FC), r = .returned (.agg #[.int .i64 6, .int .i64 0, .string ⟨#[]⟩, .slice none 0 0, .slice af (O.length + 1) cf]) ∧
      Below a.heap.size a b ∧ Hid (O'.map (·.1) = rsetF name x (O.map (·.1)) false ∧ O'.length = O.length + 1 ∧ DictA w (b.setRow (w.heap.size + 1) #[.int .i64 6, .int .i64 0, .string ⟨#[]⟩, .slice none 0 0, .slice af (O.length + 1) cf]) d (.slice af (O.length + 1) cf) O') := by
  have hv := (h.rep (by omega)).now
  have q := rSetG (e := d) (v := ⟨6, 0, eB, [], O.map (·.1)⟩) (x := x) (fun o => o.1.1.size ≤ 200 ∧ RepIn (fun g => w.heap.size + 2 ≤ g ∧ g < a.heap.size) d a o.1.2 o.2) name hv (hx.now.mono (by omega)) (by simp; omega) ⟨hn, hx⟩ (fun j q b off al' cl' cf' c hcs hq hc hlen => by
    have hq' : (O.map (·.1))[j]? = some q := hq
    rw [List.getElem?_map, Option.map_eq_some_iff] at hq'
    obtain ⟨o, ho, rfl⟩ := hq'
    have hj := (List.getElem?_eq_some_iff.1 ho).1
    have hm := List.mem_of_getElem? ho
    have hok : ∀ o ∈ O, o.ok d a := fun o ho => ⟨by have := (h.reps o ho).1; unfold maxLen; omega, (h.reps o ho).2.now⟩
    have e : o.2 = c := by
      obtain ⟨_, h0 | ⟨g, cap, cur, r1, _⟩⟩ := h.own
      · have := h0.2; omega
      · injection r1 with r1 _ _
        have hal : al = some ⟨b, off, none⟩ := by
          simp only [List.cons.injEq, Value.slice.injEq] at hcs
          exact hcs.2.2.2.2.1.1
        rw [hal] at r1
        injection r1 with r1
        injection r1 with r1 r2
        have cell : ∀ i, i < 6 → a.cell? ⟨g, j * 6 + i, none⟩ = o.cells[i]? := fun i hi => by
          have hc2 := h.own
          rw [hal, r1, r2] at hc2
          rw [hc2.cellAt _ (by omega), flatO_get hok ho i hi]
        apply List.ext_getElem?
        intro i
        by_cases hi : i < 5
        · have hci : c[i]? = some c[i] := List.getElem?_eq_getElem (by omega)
          have e1 := hc i _ hci
          rw [r1, r2, show 0 + j * 6 + 1 + i = j * 6 + (1 + i) by omega, cell (1 + i) (by omega)] at e1
          have e3 : o.cells[1 + i]? = o.2[i]? := by rw [Nat.add_comm]; simp [FC.cells]
          rw [hci, ← e1, e3]
        · rw [List.getElem?_eq_none (by rw [rep_len (hok o hm).2]; omega), List.getElem?_eq_none (by omega)]
    subst e
    exact h.reps o hm)
  refine q.mono ?_
  rintro r b ⟨⟨al', af, cl', cf, O', hr, ⟨af0, cf0, hcs⟩, hown, hO', hG⟩, hb⟩
  have hal : al' = none ∧ cl' = 0 := by
    simp only [List.cons.injEq, Value.slice.injEq] at hcs
    exact ⟨hcs.2.2.2.1.1.symm, hcs.2.2.2.1.2.2.symm⟩
  obtain ⟨rfl, rfl⟩ := hal
  have hl : O'.length = O.length + 1 := by
    have := congrArg List.length hO'
    rw [List.length_map, rsetF_len _ _ _ _ hg] at this
    simpa using this
  rw [hl] at hr hown
  refine ⟨af, cf, O', hr, hb, hid ⟨hO', hl, ?_⟩⟩
  have hB := h.later hb
  have z1 : Below w.heap.size w (b.setRow (w.heap.size + 1) #[.int .i64 6, .int .i64 0, .string ⟨#[]⟩, .slice none 0 0, .slice af (O.length + 1) cf]) := below_setRow hB.below (by omega) _
  have z2 : (b.setRow (w.heap.size + 1) #[.int .i64 6, .int .i64 0, .string ⟨#[]⟩, .slice none 0 0, .slice af (O.length + 1) cf]).heap.size = b.heap.size := by simp [World.setRow]
  have z3 : ∀ k, k ≠ w.heap.size + 1 → (b.setRow (w.heap.size + 1) #[.int .i64 6, .int .i64 0, .string ⟨#[]⟩, .slice none 0 0, .slice af (O.length + 1) cf]).heap[k]? = b.heap[k]? := fun k hk => setRow_other b (w.heap.size + 1) k _ hk
  have z4 := At.setRow hB.vbox #[.int .i64 6, .int .i64 0, .string ⟨#[]⟩, .slice none 0 0, .slice af (O.length + 1) cf]
  have z5 : (b.setRow (w.heap.size + 1) #[.int .i64 6, .int .i64 0, .string ⟨#[]⟩, .slice none 0 0, .slice af (O.length + 1) cf]).os = b.os ∧ (b.setRow (w.heap.size + 1) #[.int .i64 6, .int .i64 0, .string ⟨#[]⟩, .slice none 0 0, .slice af (O.length + 1) cf]).tape = b.tape ∧ (b.setRow (w.heap.size + 1) #[.int .i64 6, .int .i64 0, .string ⟨#[]⟩, .slice none 0 0, .slice af (O.length + 1) cf]).output = b.output := ⟨rfl, rfl, rfl⟩
  generalize b.setRow (w.heap.size + 1) #[.int .i64 6, .int .i64 0, .string ⟨#[]⟩, .slice none 0 0, .slice af (O.length + 1) cf] = wz at z1 z2 z3 z4 z5 ⊢
  exact h.set hb (by rw [hl]; exact hown) hG z1 z5 z2 z3 z4
end Go.Proofs.YtefbfgcbbpmhlabGreatDoor

/-
  Reading, the document's answer: dictionaries, whole.
-/
namespace Go.Proofs.YtefbfgcbbpmhlabGreatDoor
open Go.RowKit
set_option maxRecDepth 100000

theorem endsR_two (s : ByteArray) (j : Nat) : endsR s wEnd2 j = if skipP s j = s.size then (5, false, s.size) else if s.data.toList[skipP s j]? = some 62 ∧ s.data.toList[skipP s j + 1]? = some 62 then (0, true, skipP s j + 2) else (0, false, skipP s j) := by
  unfold endsR
  by_cases h : skipP s j = s.size
  · rw [if_pos h, if_pos h]
  · rw [if_neg h, if_neg h]
    have hb : Lib.hasPrefix (s.data.toList.drop (skipP s j)) wEnd2.data.toList = decide (s.data.toList[skipP s j]? = some 62 ∧ s.data.toList[skipP s j + 1]? = some 62) := by
      by_cases hl : skipP s j < s.size
      · have := ahB_two (c := 62) (e := 62) hl
        unfold ahB at this
        rw [show wEnd2.data.toList = (⟨#[62, 62]⟩ : ByteArray).data.toList from rfl, this, rdAt_get hl]
        simp
      · rw [List.drop_eq_nil_of_le (by simp; omega), show s.data.toList[skipP s j]? = none by rw [List.getElem?_eq_none_iff]; simp; omega]
        simp [wEnd2, Lib.hasPrefix]
    rw [hb]
    by_cases h9 : s.data.toList[skipP s j]? = some 62 ∧ s.data.toList[skipP s j + 1]? = some 62
    · rw [decide_eq_true h9, if_pos rfl, if_pos h9]; rfl
    · rw [decide_eq_false h9, if_neg (by simp), if_neg h9]
theorem dGet {w a : World} {d : Nat} {al : Option Addr} {cl : Nat} {O : List FC} {r : Bool} (name : ByteArray) (hO : O.length ≤ 300) (h : DictA w a d (.slice al O.length cl) O) (hg : (getF name (O.map (·.1))).isSome = r) :
    Calls Tryz.prog 51 #[.agg #[.int .i64 6, .int .i64 0, .string ⟨#[]⟩, .slice none 0 0, .slice al O.length cl], .string name] a fun e b => ∃ (k n : Int) (t : ByteArray) (a1 a2 : Option Addr) (l1 c1 l2 c2 : Nat), e = .returned (.tuple #[.agg #[.int .i64 k, .int .i64 n, .string t, .slice a1 l1 c1, .slice a2 l2 c2], .bool r]) ∧ Below a.heap.size a b := by
  have q := rGet_says (v := ⟨6, 0, eB, [], O.map (·.1)⟩) name (h.rep (by omega)).now
  refine q.mono ?_
  rintro e b ⟨⟨c, rfl, hr⟩, hb⟩
  obtain ⟨a1, a2, c1, c2, rfl, _⟩ := hr
  subst hg
  exact ⟨_, _, _, a1, a2, _, c1, _, c2, rfl, hb⟩
theorem freshA {w a b b3 : World} {d : Nat} {t : Value} {O : List FC} {x : V} {c : List Value} (h : DictA w a d t O) (_hb : Below a.heap.size a b) (hb3 : Below b.heap.size b b3) (hx : RepIn (fun g => a.heap.size ≤ g ∧ g < b.heap.size) d b x c) :
    RepIn (fun g => w.heap.size + 2 ≤ g ∧ g < b3.heap.size) d b3 x c := by
  have has := h.size
  exact (hx.agree hb3.size fun k hk => hb3.block k hk.2).mono fun k hk => ⟨by have := hk.1; omega, Nat.lt_of_lt_of_le hk.2 hb3.size⟩
set_option maxHeartbeats 8000000 in
theorem rDict (s : ByteArray) (k d : Nat) (deep : Int) (f : Nat → Rd) (w : World) (hk : k ≤ s.size) (hs : s.size ≤ 100000) (hd : 0 ≤ deep ∧ deep ≤ 8) (hfit : Fits s f) (hnn : ∀ j, 0 ≤ (f j).2.1)
    (hval : ∀ (w : World) (j : Nat), j ≤ s.size → Calls Tryz.prog 131 #[.string s, .int .i64 j, .int .i64 (deep + 1)] w (SaidR w d (f j))) :
    Calls Tryz.prog 187 #[.string s, .int .i64 k, .int .i64 deep] w (SaidR w (d + 1) (⟨6, 0, eB, [], (rdD f s 302 [] k).1⟩, (rdD f s 302 [] k).2.1, (rdD f s 302 [] k).2.2)) := by
  have hml : s.size ≤ maxLen := by unfold maxLen; omega
  obtain ⟨R, hRR⟩ : ∃ R, rdD f s 302 [] k = R := ⟨_, rfl⟩
  rw [hRR]
  have HR0 := hid hRR
  clear hRR
  have HV := hid hval
  have HF := hid (And.intro hfit hnn)
  clear hval hfit hnn
  go_enter Tryz.func187, Tryz.ntmps187
  go_wp2
  go_loopw [1] (fun av wr => ∃ (j : Nat) (t : Value) (O : List FC), av = .int .i64 j ∧ j ≤ s.size ∧ O.length ≤ 300 ∧ Hid (rdD f s (302 - O.length) (O.map (·.1)) j = R) ∧ DictA w wr d t O) (fun _ wr => 302 - lenAt4 (w.heap.size + 1) wr)
  case atStart =>
    refine ⟨k, .slice none 0 0, [], rfl, hk, by simp, hid HR0.out, ?_, ?_, ?_, World.ownsRow_nil _ _ _ _, by simp⟩
    · exact (below_box w _).alloc (by simp) _
    · exact (At.new _ _ _ rfl).alloc _
    · exact At.new _ _ _ (by simp)
  case round =>
    clear HR0
    obtain ⟨j, t, O, rfl, hj, hO, HT, hW⟩ := hrel
    have hWs := hW.size
    obtain ⟨a, c, rfl⟩ := own_slice6 hW.own
    obtain ⟨⟨bx0, bx1, bx2, bx3, bx4⟩, fx0, fx1, fx2, fx3, fx4⟩ := five_cells hW.box
    obtain ⟨⟨vx0, vx1, vx2, vx3, vx4⟩, gx0, gx1, gx2, gx3, gx4⟩ := hW.cells
    have hes := endsR_two s j
    have hpl := (skipP_le hj).2
    have e1 : skipP s (place s (j : Int)) = skipP s j := by rw [place_in hj]
    generalize skipP s j = p at *
    have hstep : ∀ (x : Int) (y : Bool) (z : Nat), endsR s wEnd2 j = (x, y, z) → (if x ≠ 0 then ([], x, j) else if y then (O.map (·.1), 0, z) else if (rdFd f s z).2.1 ≠ 0 then ([], (rdFd f s z).2.1, j) else if (getF (rdFd f s z).1.1 (O.map (·.1))).isSome then ([], 3, j) else if 300 < (O.map (·.1)).length + 1 then ([], 2, j) else rdD f s (302 - O.length - 1) (rsetF (rdFd f s z).1.1 (rdFd f s z).1.2 (O.map (·.1)) false) (rdFd f s z).2.2) = R := fun x y z he => by
      have h := HT.out; rw [show 302 - O.length = 302 - O.length - 1 + 1 by omega, rdD_step he] at h; exact h
    have HST := hid hstep
    clear hstep HT
    by_cases hend : p = s.size
    · rw [if_pos hend] at hes
      have HRN := hid (show ([], 5, j) = R by have h := HST.out _ _ _ hes; rw [if_pos (by decide)] at h; exact h)
      have hend' : (p : Int) = s.size := by omega
      clear hend hes HST
      go_wp2_with ((go_at_call 78; refine (rSkip s _ _ hml).mono ?_; rintro e w1 ⟨rfl, rfl⟩))
      obtain ⟨hM5, hB5, hP5⟩ := hW.fill (by omega) (.int .i64 6) (.int .i64 0) (.string ⟨#[]⟩) (.slice none 0 0) (.slice a O.length c) rfl
      unfold set5 at hM5 hB5 hP5
      generalize World.setCell _ _ _ = wf at hM5 hB5 hP5 ⊢
      obtain ⟨⟨cx0, cx1, cx2, cx3, cx4⟩, _⟩ := five_cells hB5
      refine bodyPost_ret (v := .tuple #[.agg #[.int .i64 6, .int .i64 0, .string ⟨#[]⟩, .slice none 0 0, .slice a O.length c], .int .i64 0, .int .i64 5]) (by simp [results, Tryz.results187, go_sem, cx0, cx1, cx2, cx3, cx4]; try first | exact ⟨rfl, rfl⟩ | rfl) rfl ?_
      rw [← HRN.out]
      exact ⟨6, 0, ⟨#[]⟩, none, a, 0, 0, _, c, 0, rfl, hM5, hid (fun h => absurd (show (5 : Int) = 0 from h) (by decide))⟩
    rw [if_neg hend] at hes
    have hlt : p < s.size := by omega
    have hlt' : (p : Int) < s.size := by omega
    have hend' : ¬ (p : Int) = s.size := by omega
    have hend2 : ((p : Int) == (s.size : Int)) = false := by simpa using hend'
    rw [rdAt_get hlt] at hes
    clear hend
    by_cases h62 : s[p] = 62
    · have q62 : (s[p].toNat : Int) = 62 := by rw [h62]; rfl
      by_cases hn : s.data.toList[p + 1]? = some 62
      · rw [if_pos ⟨by rw [h62], hn⟩] at hes
        have HRN := hid (show (O.map (·.1), 0, p + 2) = R by have h := HST.out _ _ _ hes; rw [if_neg (by simp), if_pos rfl] at h; exact h)
        have hl2 : p + 1 < s.size := by simpa using (List.getElem?_eq_some_iff.1 hn).1
        have hl2' : (p : Int) + 1 < s.size := by omega
        have q2 : (s[p + 1].toNat : Int) = 62 := by
          have := rdAt_get hl2
          rw [hn] at this
          injection this with this
          rw [← this]; rfl
        clear h62 hes HST hn
        go_wp2_with ((go_at_call 78; refine (rSkip s _ _ hml).mono ?_; rintro e w1 ⟨rfl, rfl⟩))
        obtain ⟨hM5, hB5, hP5⟩ := hW.fill (by omega) (.int .i64 6) (.int .i64 0) (.string ⟨#[]⟩) (.slice none 0 0) (.slice a O.length c) rfl
        unfold set5 at hM5 hB5 hP5
        generalize World.setCell _ _ _ = wf at hM5 hB5 hP5 ⊢
        obtain ⟨⟨cx0, cx1, cx2, cx3, cx4⟩, _⟩ := five_cells hB5
        refine bodyPost_ret (v := .tuple #[.agg #[.int .i64 6, .int .i64 0, .string ⟨#[]⟩, .slice none 0 0, .slice a O.length c], .int .i64 ((p : Int) + 2), .int .i64 0]) (by simp [results, Tryz.results187, go_sem, cx0, cx1, cx2, cx3, cx4]; try first | exact ⟨rfl, rfl⟩ | rfl) rfl ?_
        rw [← HRN.out]
        exact ⟨6, 0, ⟨#[]⟩, none, a, 0, 0, _, c, p + 2, by simp, hM5, hid (fun _ => ⟨rfl, hP5⟩)⟩
      · rw [if_neg (fun h => hn h.2)] at hes
        have hfd : rdFd f s p = ((eB, V0 0 0 eB), 4, p) := by unfold rdFd; rw [if_neg (by rw [rdAt_get hlt, h62]; decide)]
        have HRN := hid (show ([], 4, j) = R by have h := HST.out _ _ _ hes; rw [if_neg (by simp), if_neg (by simp), hfd, if_pos (show (4 : Int) ≠ 0 by decide)] at h; exact h)
        have q47 : ((s[p].toNat : Int) != 47) = true := by rw [q62]; rfl
        clear hes HST hfd h62
        by_cases hl2 : p + 1 < s.size
        · have hl2' : (p : Int) + 1 < s.size := by omega
          have q2 : ((s[p + 1].toNat : Int) == 62) = false := ne_u8 (k := 62) (by omega) (fun e => hn (by rw [rdAt_get hl2, e]; rfl))
          clear hn
          go_wp2_with ((go_at_call 78; refine (rSkip s _ _ hml).mono ?_; rintro e w1 ⟨rfl, rfl⟩))
          obtain ⟨hM5, hB5, hP5⟩ := hW.fill (by omega) (.int .i64 6) (.int .i64 0) (.string ⟨#[]⟩) (.slice none 0 0) (.slice a O.length c) rfl
          unfold set5 at hM5 hB5 hP5
          generalize World.setCell _ _ _ = wf at hM5 hB5 hP5 ⊢
          obtain ⟨⟨cx0, cx1, cx2, cx3, cx4⟩, _⟩ := five_cells hB5
          refine bodyPost_ret (v := .tuple #[.agg #[.int .i64 6, .int .i64 0, .string ⟨#[]⟩, .slice none 0 0, .slice a O.length c], .int .i64 0, .int .i64 4]) (by simp [results, Tryz.results187, go_sem, cx0, cx1, cx2, cx3, cx4]; try first | exact ⟨rfl, rfl⟩ | rfl) rfl ?_
          rw [← HRN.out]
          exact ⟨6, 0, ⟨#[]⟩, none, a, 0, 0, _, c, 0, rfl, hM5, hid (fun h => absurd (show (4 : Int) = 0 from h) (by decide))⟩
        · have hl2' : ¬ (p : Int) + 1 < s.size := by omega
          clear hn
          go_wp2_with ((go_at_call 78; refine (rSkip s _ _ hml).mono ?_; rintro e w1 ⟨rfl, rfl⟩))
          obtain ⟨hM5, hB5, hP5⟩ := hW.fill (by omega) (.int .i64 6) (.int .i64 0) (.string ⟨#[]⟩) (.slice none 0 0) (.slice a O.length c) rfl
          unfold set5 at hM5 hB5 hP5
          generalize World.setCell _ _ _ = wf at hM5 hB5 hP5 ⊢
          obtain ⟨⟨cx0, cx1, cx2, cx3, cx4⟩, _⟩ := five_cells hB5
          refine bodyPost_ret (v := .tuple #[.agg #[.int .i64 6, .int .i64 0, .string ⟨#[]⟩, .slice none 0 0, .slice a O.length c], .int .i64 0, .int .i64 4]) (by simp [results, Tryz.results187, go_sem, cx0, cx1, cx2, cx3, cx4]; try first | exact ⟨rfl, rfl⟩ | rfl) rfl ?_
          rw [← HRN.out]
          exact ⟨6, 0, ⟨#[]⟩, none, a, 0, 0, _, c, 0, rfl, hM5, hid (fun h => absurd (show (4 : Int) = 0 from h) (by decide))⟩
    rw [if_neg (fun h => h62 (by simpa using h.1))] at hes
    have q62 : ((s[p].toNat : Int) == 62) = false := ne_u8 (k := 62) (by omega) h62
    have HU := hid (show (if (rdFd f s p).2.1 ≠ 0 then ([], (rdFd f s p).2.1, j) else if (getF (rdFd f s p).1.1 (O.map (·.1))).isSome then ([], 3, j) else if 300 < (O.map (·.1)).length + 1 then ([], 2, j) else rdD f s (302 - O.length - 1) (rsetF (rdFd f s p).1.1 (rdFd f s p).1.2 (O.map (·.1)) false) (rdFd f s p).2.2) = R by
      have h := HST.out _ _ _ hes; rw [if_neg (by simp), if_neg (by simp)] at h; exact h)
    clear hes HST h62
    by_cases h47 : s[p] = 47
    · have q47 : (s[p].toNat : Int) = 47 := by rw [h47]; rfl
      have hnm := fun (w : World) => rReadName s p w hlt hs
      have hwl := yWordLe (s := s) (k := p + 1) (by omega)
      have HFD := hid (show rdFd f s p = match nameR (wordP s (p + 1)).data.toList with | none => ((eB, V0 0 0 eB), 4, p) | some b => ((⟨b.toArray⟩, (f (p + 1 + (wordP s (p + 1)).size)).1), (f (p + 1 + (wordP s (p + 1)).size)).2.1, (f (p + 1 + (wordP s (p + 1)).size)).2.2) by unfold rdFd; rw [if_pos (by rw [rdAt_get hlt, h47])]; cases nameR (wordP s (p + 1)).data.toList <;> rfl)
      have HNO := hid (rdFd_name (f := f) (s := s) (k := p))
      unfold rName at hnm
      generalize wordP s (p + 1) = W at hnm hwl HFD
      clear h47
      cases hr : nameR W.data.toList with
      | none =>
        have hfd := HFD.out
        rw [hr] at hfd hnm
        simp only at hfd hnm
        have HRN := hid (show ([], 4, j) = R by have h := HU.out; rw [hfd, if_pos (show (4 : Int) ≠ 0 by decide)] at h; exact h)
        clear HU HFD hfd hr HNO
        go_wp2_with (first | (go_at_call 78; refine (rSkip s _ _ hml).mono ?_; rintro e w1 ⟨rfl, rfl⟩) | (go_at_call 185; go_must (refine (hnm _).mono ?_); rintro e w2 ⟨rfl, hb2⟩; (have hW2 := hW.later hb2); obtain ⟨⟨bp0, bp1, bp2, bp3, bp4⟩, fp0, fp1, fp2, fp3, fp4⟩ := five_cells hW2.box; obtain ⟨⟨vp0, vp1, vp2, vp3, vp4⟩, gp0, gp1, gp2, gp3, gp4⟩ := hW2.cells))
        obtain ⟨hM5, hB5, hP5⟩ := hW2.fill (by omega) (.int .i64 6) (.int .i64 0) (.string ⟨#[]⟩) (.slice none 0 0) (.slice a O.length c) rfl
        unfold set5 at hM5 hB5 hP5
        generalize World.setCell _ _ _ = wf at hM5 hB5 hP5 ⊢
        obtain ⟨⟨cx0, cx1, cx2, cx3, cx4⟩, _⟩ := five_cells hB5
        refine bodyPost_ret (v := .tuple #[.agg #[.int .i64 6, .int .i64 0, .string ⟨#[]⟩, .slice none 0 0, .slice a O.length c], .int .i64 0, .int .i64 4]) (by simp [results, Tryz.results187, go_sem, cx0, cx1, cx2, cx3, cx4]; try first | exact ⟨rfl, rfl⟩ | rfl) rfl ?_
        rw [← HRN.out]
        exact ⟨6, 0, ⟨#[]⟩, none, a, 0, 0, _, c, 0, rfl, hM5, hid (fun h => absurd (show (4 : Int) = 0 from h) (by decide))⟩
      | some bb =>
        have hfd := HFD.out
        rw [hr] at hfd hnm
        simp only at hfd hnm
        rw [hfd] at HU HNO
        clear HFD hfd hr
        have hv := fun (w : World) => HV.out w (p + 1 + W.size) (by omega)
        have hff := HF.out.1 (p + 1 + W.size) (by omega)
        have hn0 := HF.out.2 (p + 1 + W.size)
        generalize f (p + 1 + W.size) = r at hv HU hff hn0 HNO
        obtain ⟨x, e2, z1⟩ := r
        unfold SaidR at hv
        simp only at hv hff hn0
        have HFF := hid hff
        clear hff
        have hcast : ((p + 1 + W.size : Nat) : Int) = (p : Int) + 1 + (W.size : Int) := by omega
        rw [hcast] at hnm hv
        obtain ⟨nm, hnme⟩ : ∃ nm : ByteArray, (⟨bb.toArray⟩ : ByteArray) = nm := ⟨_, rfl⟩
        rw [hnme] at hnm HU HNO
        clear hnme hcast
        by_cases he : e2 = 0
        · subst he
          have HZ := hid (HFF.out rfl).2
          have HNS := hid (nmOk_size (HNO.out rfl))
          cases hg : (getF nm (O.map (·.1))).isSome
          · have HG := hid hg
            by_cases hmany : O.length + 1 ≤ 300
            · have hm' : ¬ ((300 : Int) < (O.length : Int) + 1) := by omega
              have HRN := hid (show rdD f s (302 - O.length - 1) (rsetF nm x (O.map (·.1)) false) z1 = R by have h := HU.out; rw [if_neg (by simp), if_neg (by simp only; rw [hg]; simp), if_neg (by simp; omega)] at h; exact h)
              clear HU hg
              go_wp2_with (first | (go_at_call 78; refine (rSkip s _ _ hml).mono ?_; rintro e w1 ⟨rfl, rfl⟩) | (go_at_call 185; go_must (refine (hnm _).mono ?_); rintro e w2 ⟨rfl, hb2⟩; (have hW2 := hW.later hb2); obtain ⟨⟨bp0, bp1, bp2, bp3, bp4⟩, fp0, fp1, fp2, fp3, fp4⟩ := five_cells hW2.box; obtain ⟨⟨vp0, vp1, vp2, vp3, vp4⟩, gp0, gp1, gp2, gp3, gp4⟩ := hW2.cells) | (go_at_call 131; go_must (refine (hv _).mono ?_); rintro e w3 ⟨k1, n1, t1, a1, a2, l1, c1, l2, c2, J, rfl, hb3, HQ⟩; (have hW3 := hW2.later hb3); (have hz3 := hW3.size); (have hWa := hW3.later (below_box w3 (.cells #[.int .i64 k1, .int .i64 n1, .string t1, .slice a1 l1 c1, .slice a2 l2 c2] 26))); obtain ⟨⟨bq0, bq1, bq2, bq3, bq4⟩, fq0, fq1, fq2, fq3, fq4⟩ := five_cells hW3.box; obtain ⟨⟨vq0, vq1, vq2, vq3, vq4⟩, gq0, gq1, gq2, gq3, gq4⟩ := hW3.cells; obtain ⟨⟨br0, br1, br2, br3, br4⟩, fr0, fr1, fr2, fr3, fr4⟩ := five_cells hWa.box; obtain ⟨⟨vr0, vr1, vr2, vr3, vr4⟩, gr0, gr1, gr2, gr3, gr4⟩ := hWa.cells) | (go_at_call 51; go_must (refine (dGet nm hO hWa HG.out).mono ?_); rintro e w4 ⟨k3, n3, t3, a3, a4, l3, c3, l4, c4, rfl, hb4⟩; (have hW4 := hWa.later hb4); (have hWb := hW4.later (below_box w4 (.cells #[.int .i64 k3, .int .i64 n3, .string t3, .slice a3 l3 c3, .slice a4 l4 c4] 26))); (have hX4 := At.later (At.new w3 #[.int .i64 k1, .int .i64 n1, .string t1, .slice a1 l1 c1, .slice a2 l2 c2] 26 rfl) hb4); (have hXl := At.lt hX4); (have hXb := At.later hX4 (below_box w4 (.cells #[.int .i64 k3, .int .i64 n3, .string t3, .slice a3 l3 c3, .slice a4 l4 c4] 26))); obtain ⟨⟨bs0, bs1, bs2, bs3, bs4⟩, fs0, fs1, fs2, fs3, fs4⟩ := five_cells hW4.box; obtain ⟨⟨vs0, vs1, vs2, vs3, vs4⟩, gs0, gs1, gs2, gs3, gs4⟩ := hW4.cells; obtain ⟨⟨bu0, bu1, bu2, bu3, bu4⟩, fu0, fu1, fu2, fu3, fu4⟩ := five_cells hWb.box; obtain ⟨⟨vu0, vu1, vu2, vu3, vu4⟩, gu0, gu1, gu2, gu3, gu4⟩ := hWb.cells; obtain ⟨⟨xb0, xb1, xb2, xb3, xb4⟩, _⟩ := five_cells hXb) | (go_at_call 43; fail))
              go_at_call 43
              obtain ⟨hJ, hRep⟩ := HQ.out (by first | trivial | rfl)
              refine (dSet (x := x) nm hO HNS.out hWb (freshA hW2 hb3 ((Below.trans (below_box w3 _) ((hb4.mono (by simp)))).trans ((below_box w4 _).mono (by have := hb4.size; simp at this; omega))) hRep) HG.out).mono ?_
              rintro e w5 ⟨af, cf, O2, rfl, hb5, HY⟩
              have hW5 := hWb.later hb5
              have hzz := hW5.size
              have HV5 := hid hW5.vbox
              clear bp0 bp1 bp2 bp3 bp4 bq0 bq1 bq2 bq3 bq4 br0 br1 br2 br3 br4 bs0 bs1 bs2 bs3 bs4 bu0 bu1 bu2 bu3 bu4 vp0 vp1 vp2 vp3 vp4 vq0 vq1 vq2 vq3 vq4 vr0 vr1 vr2 vr3 vr4 vs0 vs1 vs2 vs3 vs4 vu0 vu1 vu2 vu3 vu4 fp0 fp1 fp2 fp3 fp4 fq0 fq1 fq2 fq3 fq4 fr0 fr1 fr2 fr3 fr4 fs0 fs1 fs2 fs3 fs4 fu0 fu1 fu2 fu3 fu4 gp0 gp1 gp2 gp3 gp4 gq0 gq1 gq2 gq3 gq4 gr0 gr1 gr2 gr3 gr4 gs0 gs1 gs2 gs3 gs4 gu0 gu1 gu2 gu3 gu4
              go_wp2_with (refine wpList_store_row rfl 26 (.tmp 9) (.tmp 86) rfl (w.heap.size + 1) #[.int .i64 6, .int .i64 0, .string ⟨#[]⟩, .slice none 0 0, .slice af (O.length + 1) cf] rfl rfl 26 #[.int .i64 6, .int .i64 0, .string ⟨#[]⟩, .slice none 0 0, .slice a O.length c] HV5.out (by kernel_rfl) rfl (by simp [Value.oneCell']) ?_; generalize World.setRow w5 _ _ = wz at HY ⊢; obtain ⟨⟨bb0, bb1, bb2, bb3, bb4⟩, fb0, fb1, fb2, fb3, fb4⟩ := five_cells HY.out.2.2.box; obtain ⟨⟨vb0, vb1, vb2, vb3, vb4⟩, gb0, gb1, gb2, gb3, gb4⟩ := HY.out.2.2.cells)
              have hY := HY.out
              refine ⟨⟨z1, _, O2, rfl, HZ.out, by rw [hY.2.1]; omega, hid ?_, hY.2.2⟩, ?_⟩
              · rw [hY.1, hY.2.1, show 302 - (O.length + 1) = 302 - O.length - 1 by omega]
                exact HRN.out
              · rw [lenAt4_at hY.2.2.vbox, lenAt4_at hW.vbox]; omega
            · have hm' : (300 : Int) < (O.length : Int) + 1 := by omega
              have HRN := hid (show ([], 2, j) = R by have h := HU.out; rw [if_neg (by simp), if_neg (by simp only; rw [hg]; simp), if_pos (by simp; omega)] at h; exact h)
              clear HU hg
              go_wp2_with (first | (go_at_call 78; refine (rSkip s _ _ hml).mono ?_; rintro e w1 ⟨rfl, rfl⟩) | (go_at_call 185; go_must (refine (hnm _).mono ?_); rintro e w2 ⟨rfl, hb2⟩; (have hW2 := hW.later hb2); obtain ⟨⟨bp0, bp1, bp2, bp3, bp4⟩, fp0, fp1, fp2, fp3, fp4⟩ := five_cells hW2.box; obtain ⟨⟨vp0, vp1, vp2, vp3, vp4⟩, gp0, gp1, gp2, gp3, gp4⟩ := hW2.cells) | (go_at_call 131; go_must (refine (hv _).mono ?_); rintro e w3 ⟨k1, n1, t1, a1, a2, l1, c1, l2, c2, J, rfl, hb3, HQ⟩; (have hW3 := hW2.later hb3); (have hz3 := hW3.size); (have hWa := hW3.later (below_box w3 (.cells #[.int .i64 k1, .int .i64 n1, .string t1, .slice a1 l1 c1, .slice a2 l2 c2] 26))); obtain ⟨⟨bq0, bq1, bq2, bq3, bq4⟩, fq0, fq1, fq2, fq3, fq4⟩ := five_cells hW3.box; obtain ⟨⟨vq0, vq1, vq2, vq3, vq4⟩, gq0, gq1, gq2, gq3, gq4⟩ := hW3.cells; obtain ⟨⟨br0, br1, br2, br3, br4⟩, fr0, fr1, fr2, fr3, fr4⟩ := five_cells hWa.box; obtain ⟨⟨vr0, vr1, vr2, vr3, vr4⟩, gr0, gr1, gr2, gr3, gr4⟩ := hWa.cells) | (go_at_call 51; go_must (refine (dGet nm hO hWa HG.out).mono ?_); rintro e w4 ⟨k3, n3, t3, a3, a4, l3, c3, l4, c4, rfl, hb4⟩; (have hW4 := hWa.later hb4); (have hWb := hW4.later (below_box w4 (.cells #[.int .i64 k3, .int .i64 n3, .string t3, .slice a3 l3 c3, .slice a4 l4 c4] 26))); (have hX4 := At.later (At.new w3 #[.int .i64 k1, .int .i64 n1, .string t1, .slice a1 l1 c1, .slice a2 l2 c2] 26 rfl) hb4); (have hXl := At.lt hX4); (have hXb := At.later hX4 (below_box w4 (.cells #[.int .i64 k3, .int .i64 n3, .string t3, .slice a3 l3 c3, .slice a4 l4 c4] 26))); obtain ⟨⟨bs0, bs1, bs2, bs3, bs4⟩, fs0, fs1, fs2, fs3, fs4⟩ := five_cells hW4.box; obtain ⟨⟨vs0, vs1, vs2, vs3, vs4⟩, gs0, gs1, gs2, gs3, gs4⟩ := hW4.cells; obtain ⟨⟨bu0, bu1, bu2, bu3, bu4⟩, fu0, fu1, fu2, fu3, fu4⟩ := five_cells hWb.box; obtain ⟨⟨vu0, vu1, vu2, vu3, vu4⟩, gu0, gu1, gu2, gu3, gu4⟩ := hWb.cells; obtain ⟨⟨xb0, xb1, xb2, xb3, xb4⟩, _⟩ := five_cells hXb) | (go_at_call 43; fail))
              go_at_call 43
              obtain ⟨hJ, hRep⟩ := HQ.out (by first | trivial | rfl)
              refine (dSet (x := x) nm hO HNS.out hWb (freshA hW2 hb3 ((Below.trans (below_box w3 _) ((hb4.mono (by simp)))).trans ((below_box w4 _).mono (by have := hb4.size; simp at this; omega))) hRep) HG.out).mono ?_
              rintro e w5 ⟨af, cf, O2, rfl, hb5, HY⟩
              have hW5 := hWb.later hb5
              have hzz := hW5.size
              have HV5 := hid hW5.vbox
              clear bp0 bp1 bp2 bp3 bp4 bq0 bq1 bq2 bq3 bq4 br0 br1 br2 br3 br4 bs0 bs1 bs2 bs3 bs4 bu0 bu1 bu2 bu3 bu4 vp0 vp1 vp2 vp3 vp4 vq0 vq1 vq2 vq3 vq4 vr0 vr1 vr2 vr3 vr4 vs0 vs1 vs2 vs3 vs4 vu0 vu1 vu2 vu3 vu4 fp0 fp1 fp2 fp3 fp4 fq0 fq1 fq2 fq3 fq4 fr0 fr1 fr2 fr3 fr4 fs0 fs1 fs2 fs3 fs4 fu0 fu1 fu2 fu3 fu4 gp0 gp1 gp2 gp3 gp4 gq0 gq1 gq2 gq3 gq4 gr0 gr1 gr2 gr3 gr4 gs0 gs1 gs2 gs3 gs4 gu0 gu1 gu2 gu3 gu4
              go_wp2_with (refine wpList_store_row rfl 26 (.tmp 9) (.tmp 86) rfl (w.heap.size + 1) #[.int .i64 6, .int .i64 0, .string ⟨#[]⟩, .slice none 0 0, .slice af (O.length + 1) cf] rfl rfl 26 #[.int .i64 6, .int .i64 0, .string ⟨#[]⟩, .slice none 0 0, .slice a O.length c] HV5.out (by kernel_rfl) rfl (by simp [Value.oneCell']) ?_; generalize World.setRow w5 _ _ = wz at HY ⊢; obtain ⟨⟨bb0, bb1, bb2, bb3, bb4⟩, fb0, fb1, fb2, fb3, fb4⟩ := five_cells HY.out.2.2.box; obtain ⟨⟨vb0, vb1, vb2, vb3, vb4⟩, gb0, gb1, gb2, gb3, gb4⟩ := HY.out.2.2.cells)
              obtain ⟨hM5, hB5, hP5⟩ := HY.out.2.2.fill (by rw [HY.out.2.1]; omega) (.int .i64 6) (.int .i64 0) (.string ⟨#[]⟩) (.slice none 0 0) (.slice af (O.length + 1) cf) rfl
              unfold set5 at hM5 hB5 hP5
              generalize World.setCell _ _ _ = wf at hM5 hB5 hP5 ⊢
              obtain ⟨⟨cx0, cx1, cx2, cx3, cx4⟩, _⟩ := five_cells hB5
              refine bodyPost_ret (v := .tuple #[.agg #[.int .i64 6, .int .i64 0, .string ⟨#[]⟩, .slice none 0 0, .slice af (O.length + 1) cf], .int .i64 0, .int .i64 2]) (by simp [results, Tryz.results187, go_sem, cx0, cx1, cx2, cx3, cx4]; try first | exact ⟨rfl, rfl⟩ | rfl) rfl ?_
              rw [← HRN.out]
              exact ⟨6, 0, ⟨#[]⟩, none, af, 0, 0, _, cf, 0, rfl, hM5, hid (fun h => absurd (show (2 : Int) = 0 from h) (by decide))⟩
          · have HG := hid hg
            have HRN := hid (show ([], 3, j) = R by have h := HU.out; rw [if_neg (by simp), if_pos (by simp only; exact hg)] at h; exact h)
            clear HU hg
            go_wp2_with (first | (go_at_call 78; refine (rSkip s _ _ hml).mono ?_; rintro e w1 ⟨rfl, rfl⟩) | (go_at_call 185; go_must (refine (hnm _).mono ?_); rintro e w2 ⟨rfl, hb2⟩; (have hW2 := hW.later hb2); obtain ⟨⟨bp0, bp1, bp2, bp3, bp4⟩, fp0, fp1, fp2, fp3, fp4⟩ := five_cells hW2.box; obtain ⟨⟨vp0, vp1, vp2, vp3, vp4⟩, gp0, gp1, gp2, gp3, gp4⟩ := hW2.cells) | (go_at_call 131; go_must (refine (hv _).mono ?_); rintro e w3 ⟨k1, n1, t1, a1, a2, l1, c1, l2, c2, J, rfl, hb3, HQ⟩; (have hW3 := hW2.later hb3); (have hz3 := hW3.size); (have hWa := hW3.later (below_box w3 (.cells #[.int .i64 k1, .int .i64 n1, .string t1, .slice a1 l1 c1, .slice a2 l2 c2] 26))); obtain ⟨⟨bq0, bq1, bq2, bq3, bq4⟩, fq0, fq1, fq2, fq3, fq4⟩ := five_cells hW3.box; obtain ⟨⟨vq0, vq1, vq2, vq3, vq4⟩, gq0, gq1, gq2, gq3, gq4⟩ := hW3.cells; obtain ⟨⟨br0, br1, br2, br3, br4⟩, fr0, fr1, fr2, fr3, fr4⟩ := five_cells hWa.box; obtain ⟨⟨vr0, vr1, vr2, vr3, vr4⟩, gr0, gr1, gr2, gr3, gr4⟩ := hWa.cells) | (go_at_call 51; go_must (refine (dGet nm hO hWa HG.out).mono ?_); rintro e w4 ⟨k3, n3, t3, a3, a4, l3, c3, l4, c4, rfl, hb4⟩; (have hW4 := hWa.later hb4); (have hWb := hW4.later (below_box w4 (.cells #[.int .i64 k3, .int .i64 n3, .string t3, .slice a3 l3 c3, .slice a4 l4 c4] 26))); (have hX4 := At.later (At.new w3 #[.int .i64 k1, .int .i64 n1, .string t1, .slice a1 l1 c1, .slice a2 l2 c2] 26 rfl) hb4); (have hXl := At.lt hX4); (have hXb := At.later hX4 (below_box w4 (.cells #[.int .i64 k3, .int .i64 n3, .string t3, .slice a3 l3 c3, .slice a4 l4 c4] 26))); obtain ⟨⟨bs0, bs1, bs2, bs3, bs4⟩, fs0, fs1, fs2, fs3, fs4⟩ := five_cells hW4.box; obtain ⟨⟨vs0, vs1, vs2, vs3, vs4⟩, gs0, gs1, gs2, gs3, gs4⟩ := hW4.cells; obtain ⟨⟨bu0, bu1, bu2, bu3, bu4⟩, fu0, fu1, fu2, fu3, fu4⟩ := five_cells hWb.box; obtain ⟨⟨vu0, vu1, vu2, vu3, vu4⟩, gu0, gu1, gu2, gu3, gu4⟩ := hWb.cells; obtain ⟨⟨xb0, xb1, xb2, xb3, xb4⟩, _⟩ := five_cells hXb))
            obtain ⟨hM5, hB5, hP5⟩ := hWb.fill (by omega) (.int .i64 6) (.int .i64 0) (.string ⟨#[]⟩) (.slice none 0 0) (.slice a O.length c) rfl
            unfold set5 at hM5 hB5 hP5
            generalize World.setCell _ _ _ = wf at hM5 hB5 hP5 ⊢
            obtain ⟨⟨cx0, cx1, cx2, cx3, cx4⟩, _⟩ := five_cells hB5
            refine bodyPost_ret (v := .tuple #[.agg #[.int .i64 6, .int .i64 0, .string ⟨#[]⟩, .slice none 0 0, .slice a O.length c], .int .i64 0, .int .i64 3]) (by simp [results, Tryz.results187, go_sem, cx0, cx1, cx2, cx3, cx4]; try first | exact ⟨rfl, rfl⟩ | rfl) rfl ?_
            rw [← HRN.out]
            exact ⟨6, 0, ⟨#[]⟩, none, a, 0, 0, _, c, 0, rfl, hM5, hid (fun h => absurd (show (3 : Int) = 0 from h) (by decide))⟩
        · have he' : (0 : Int) < e2 := by omega
          have HRN := hid (show ([], e2, j) = R by rw [← HU.out, if_pos he])
          have HX := hid he
          clear HU he
          go_wp2_with (first | (go_at_call 78; refine (rSkip s _ _ hml).mono ?_; rintro e w1 ⟨rfl, rfl⟩) | (go_at_call 185; go_must (refine (hnm _).mono ?_); rintro e w2 ⟨rfl, hb2⟩; (have hW2 := hW.later hb2); obtain ⟨⟨bp0, bp1, bp2, bp3, bp4⟩, fp0, fp1, fp2, fp3, fp4⟩ := five_cells hW2.box; obtain ⟨⟨vp0, vp1, vp2, vp3, vp4⟩, gp0, gp1, gp2, gp3, gp4⟩ := hW2.cells) | (go_at_call 131; go_must (refine (hv _).mono ?_); rintro e w3 ⟨k1, n1, t1, a1, a2, l1, c1, l2, c2, J, rfl, hb3, HQ⟩; (have hW3 := hW2.later hb3); (have hz3 := hW3.size); (have hWa := hW3.later (below_box w3 (.cells #[.int .i64 k1, .int .i64 n1, .string t1, .slice a1 l1 c1, .slice a2 l2 c2] 26))); obtain ⟨⟨bq0, bq1, bq2, bq3, bq4⟩, fq0, fq1, fq2, fq3, fq4⟩ := five_cells hW3.box; obtain ⟨⟨vq0, vq1, vq2, vq3, vq4⟩, gq0, gq1, gq2, gq3, gq4⟩ := hW3.cells; obtain ⟨⟨br0, br1, br2, br3, br4⟩, fr0, fr1, fr2, fr3, fr4⟩ := five_cells hWa.box; obtain ⟨⟨vr0, vr1, vr2, vr3, vr4⟩, gr0, gr1, gr2, gr3, gr4⟩ := hWa.cells))
          obtain ⟨hM5, hB5, hP5⟩ := hWa.fill (by omega) (.int .i64 6) (.int .i64 0) (.string ⟨#[]⟩) (.slice none 0 0) (.slice a O.length c) rfl
          unfold set5 at hM5 hB5 hP5
          generalize World.setCell _ _ _ = wf at hM5 hB5 hP5 ⊢
          obtain ⟨⟨cx0, cx1, cx2, cx3, cx4⟩, _⟩ := five_cells hB5
          refine bodyPost_ret (v := .tuple #[.agg #[.int .i64 6, .int .i64 0, .string ⟨#[]⟩, .slice none 0 0, .slice a O.length c], .int .i64 0, .int .i64 e2]) (by simp [results, Tryz.results187, go_sem, cx0, cx1, cx2, cx3, cx4]; try first | exact ⟨rfl, rfl⟩ | rfl) rfl ?_
          rw [← HRN.out]
          exact ⟨6, 0, ⟨#[]⟩, none, a, 0, 0, _, c, 0, rfl, hM5, hid (fun h => absurd h HX.out)⟩
    · have q47b : ((s[p].toNat : Int) == 47) = false := ne_u8 (k := 47) (by omega) h47
      have q47 : ((s[p].toNat : Int) != 47) = true := by simp [bne, q47b]
      have hfd : rdFd f s p = ((eB, V0 0 0 eB), 4, p) := by unfold rdFd; rw [if_neg (by rw [rdAt_get hlt]; simpa using h47)]
      have HRN := hid (show ([], 4, j) = R by have h := HU.out; rw [hfd, if_pos (show (4 : Int) ≠ 0 by decide)] at h; exact h)
      clear HU hfd h47
      go_wp2_with ((go_at_call 78; refine (rSkip s _ _ hml).mono ?_; rintro e w1 ⟨rfl, rfl⟩))
      obtain ⟨hM5, hB5, hP5⟩ := hW.fill (by omega) (.int .i64 6) (.int .i64 0) (.string ⟨#[]⟩) (.slice none 0 0) (.slice a O.length c) rfl
      unfold set5 at hM5 hB5 hP5
      generalize World.setCell _ _ _ = wf at hM5 hB5 hP5 ⊢
      obtain ⟨⟨cx0, cx1, cx2, cx3, cx4⟩, _⟩ := five_cells hB5
      refine bodyPost_ret (v := .tuple #[.agg #[.int .i64 6, .int .i64 0, .string ⟨#[]⟩, .slice none 0 0, .slice a O.length c], .int .i64 0, .int .i64 4]) (by simp [results, Tryz.results187, go_sem, cx0, cx1, cx2, cx3, cx4]; try first | exact ⟨rfl, rfl⟩ | rfl) rfl ?_
      rw [← HRN.out]
      exact ⟨6, 0, ⟨#[]⟩, none, a, 0, 0, _, c, 0, rfl, hM5, hid (fun h => absurd (show (4 : Int) = 0 from h) (by decide))⟩
end Go.Proofs.YtefbfgcbbpmhlabGreatDoor
