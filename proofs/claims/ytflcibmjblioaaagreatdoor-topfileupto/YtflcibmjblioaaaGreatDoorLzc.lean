/-
  Joined: Lza, Lzb, Lzc.
-/
import Derived.Test.YtflcibmjblioaaaGreatDoorLy
import Derived.Test.YtflcibmjblioaaaGreatDoorVc5
import Derived.Test.YtflcibmjblioaaaGreatDoorLw

/-
  What a file that was read answers: Numbers, Root; and an object is as it was laid.
-/
namespace Go.Proofs.YtflcibmjblioaaaGreatDoor
open Go.RowKit Go.Lib Go.Maps
set_option maxRecDepth 1000000

theorem numbersF_says (B E F : Nat) (s : ByteArray) (tb : Int) (lv : V) (m : Int → Option Int) (w : World) (hF : FileR B E F s tb lv m w) :
    Calls Tryz.prog 9 #[.pointer (some ⟨F, 0, none⟩)] w fun e w' => (∃ a c, ∃ zs : List Int, e = .returned (.slice a zs.length c) ∧ zs.Nodup ∧ ∀ x, x ∈ zs ↔ ∃ c, m x = some c ∧ 0 ≤ c) ∧ Below w.heap.size w w' := by
  obtain ⟨mb, n, c0, c1, c2, c3, c4, hF1, hn, hM, _, _, _, _, _, _, _⟩ := hF
  have fc1 := hF1.cell 1
  have fl := hF1.lt
  simp at fc1
  have hN := numbersZ mb n m w hM (by omega)
  clear hF1 hM
  go_enter Tryz.func9, Tryz.ntmps9
  go_wp2_with (go_at_call 23; fail)
  go_at_call 23
  refine hN.mono ?_
  rintro e w' ⟨t, zs, rfl, ho, hnd, hmem, hb⟩
  obtain ⟨a, c, rfl⟩ := ownZ_form ho
  clear ho
  go_wp2
  go_ret
  exact ⟨⟨a, c, zs, rfl, hnd, hmem⟩, hb⟩
theorem rootF_says (B E F : Nat) (s : ByteArray) (tb : Int) (lv : V) (m : Int → Option Int) (w : World) (x : V) (hF : FileR B E F s tb lv m w) (hcn : lv.cnt ≤ 1048576) (hg : getF rootN lv.f = some x) (hk : x.k = 7) :
    Calls Tryz.prog 10 #[.pointer (some ⟨F, 0, none⟩)] w fun e w' => e = .returned (.tuple #[.int .i64 x.n, .nilIface]) ∧ Below w.heap.size w w' := by
  obtain ⟨mb, n, c0, c1, c2, c3, c4, hF1, _, _, hR, _, _, _, _, _, _⟩ := hF
  have hr := hR.out.now
  have hr' := hr
  obtain ⟨al, af, cl, cf, e, _⟩ := hr'
  simp only [List.cons.injEq, and_true] at e
  obtain ⟨rfl, rfl, rfl, rfl, rfl⟩ := e
  exact root_says F s _ tb lv _ _ _ _ _ _ _ _ _ x hF1 hr hcn hg hk
theorem ansB_true {P : Prop} {e : Ending} (h : AnsB e P) (hp : P) : e = .returned (.bool true) := by
  rcases h with ⟨h, _⟩ | ⟨_, hn⟩
  · exact h
  · exact absurd hp hn
set_option maxHeartbeats 2000000 in
/-- An object is in a file as it was laid. -/
theorem held_says (M : Int) (d B E F : Nat) (s : ByteArray) (tb : Int) (lv : V) (m : Int → Option Int) (o : Ob) (p : Nat) (cs : List Value) (w : World) (hs : s.size ≤ 60000) (hF : FileR B E F s tb lv m w) (hm : m o.n = some (p : Int)) (hO : RdOb s p o) (hob : obF o = 0) (hv : RepN d w o.v cs) (hcv : o.v.cnt ≤ 1000000) (hG : Gr M w) :
    Calls Tryz.prog 11 #[.pointer (some ⟨F, 0, none⟩), .agg (obC o.n cs o.st o.dt).toArray] w fun e w' => e = .returned (.bool true) ∧ Below w.heap.size w w' := by
  obtain ⟨hn, h2, hf⟩ := obF_parts hob
  obtain ⟨d', rfl⟩ := hv.inv
  have HV := hid hv
  obtain ⟨a1, a2, q1, q2, rfl, _⟩ := hv
  have hEl : E ≤ w.heap.size := by obtain ⟨_, _, _, _, _, _, _, _, _, _, _, _, _, _, _, _, h⟩ := hF; exact h
  have HF := hid hF
  have HG := hid hG
  have HH := hid (And.intro hm (And.intro hO hob))
  have HP := hid (And.intro h2 hf)
  clear hF hG hm hO hob h2 hf
  unfold obC
  simp only [List.cons_append, List.nil_append]
  go_enter Tryz.func11, Tryz.ntmps11
  have A1 := At.new w #[.int .i64 o.n, .int .i64 o.v.k, .int .i64 o.v.n, .string o.v.s, .slice a1 o.v.l.length q1, .slice a2 o.v.f.length q2, .bool o.st, .string o.dt] 42 rfl
  have hB1 := below_box w (.cells #[.int .i64 o.n, .int .i64 o.v.k, .int .i64 o.v.n, .string o.v.s, .slice a1 o.v.l.length q1, .slice a2 o.v.f.length q2, .bool o.st, .string o.dt] 42)
  go_wp2_with (go_at_call 13; fail)
  generalize w.alloc (.cells #[.int .i64 o.n, .int .i64 o.v.k, .int .i64 o.v.n, .string o.v.s, .slice a1 o.v.l.length q1, .slice a2 o.v.f.length q2, .bool o.st, .string o.dt] 42) = w1 at A1 hB1 ⊢
  go_at_call 13
  refine (get_says M B E F s tb lv m o p w1 hs (HF.out.later (hB1.mono hEl)) HH.out.1 HH.out.2.1 HH.out.2.2 (HG.out.below hB1)).mono ?_
  rintro e w2 ⟨cs2, rfl, hrp, hb2⟩
  have HR2 := hid hrp.out.now
  have HRI := hid hrp.out
  have A2 := A1.later hb2
  have hB2 : Below w.heap.size w w2 := hB1.trans (hb2.mono hB1.size)
  obtain ⟨b1, b2, p1, p2, rfl, _⟩ := hrp.out.now
  unfold obC
  simp only [List.cons_append, List.nil_append]
  obtain ⟨⟨r0, r1, r2, r3, r4, r5, r6, r7⟩, _⟩ := eight_cells A2
  have rl := A2.lt
  clear hrp A1 hB1 hb2
  go_upto_region 3 with fail
  have X4 := (At.new w2 #[.int .i64 o.n, .int .i64 (lvR o).1.k, .int .i64 (lvR o).1.n, .string (lvR o).1.s, .slice b1 (lvR o).1.l.length p1, .slice b2 (lvR o).1.f.length p2, .bool o.st, .string o.dt] 42 rfl).alloc (.cells #[.int .i64 o.v.k, .int .i64 o.v.n, .string o.v.s, .slice a1 o.v.l.length q1, .slice a2 o.v.f.length q2] 40)
  have V4 := At.new (w2.alloc (.cells #[.int .i64 o.n, .int .i64 (lvR o).1.k, .int .i64 (lvR o).1.n, .string (lvR o).1.s, .slice b1 (lvR o).1.l.length p1, .slice b2 (lvR o).1.f.length p2, .bool o.st, .string o.dt] 42)) #[.int .i64 o.v.k, .int .i64 o.v.n, .string o.v.s, .slice a1 o.v.l.length q1, .slice a2 o.v.f.length q2] 40 (b := w2.heap.size + 1) (by simp)
  have A4 := (A2.alloc (.cells #[.int .i64 o.n, .int .i64 (lvR o).1.k, .int .i64 (lvR o).1.n, .string (lvR o).1.s, .slice b1 (lvR o).1.l.length p1, .slice b2 (lvR o).1.f.length p2, .bool o.st, .string o.dt] 42)).alloc (.cells #[.int .i64 o.v.k, .int .i64 o.v.n, .string o.v.s, .slice a1 o.v.l.length q1, .slice a2 o.v.f.length q2] 40)
  have hb4 : Below w2.heap.size w2 ((w2.alloc (.cells #[.int .i64 o.n, .int .i64 (lvR o).1.k, .int .i64 (lvR o).1.n, .string (lvR o).1.s, .slice b1 (lvR o).1.l.length p1, .slice b2 (lvR o).1.f.length p2, .bool o.st, .string o.dt] 42)).alloc (.cells #[.int .i64 o.v.k, .int .i64 o.v.n, .string o.v.s, .slice a1 o.v.l.length q1, .slice a2 o.v.f.length q2] 40)) := (below_box w2 _).alloc (by simp) _
  clear r0 r1 r2 r3 r4 r5 r6 r7 rl
  generalize World.alloc _ _ = w4 at X4 V4 A4 hb4 ⊢
  have hB4 := hB2.trans (hb4.mono hB2.size)
  have HR4 := hid (HR2.out.later hb4)
  have HV4 := hid (HV.out.later hB4)
  have hcl := (fault_parts HP.out.2).2.1
  have hpl := hid (lv_cnt o)
  have h2l : w2.heap.size + 1 < w4.heap.size := V4.lt
  have hwl := A2.lt
  clear A2 HR2 HV
  cases hst : o.st with
  | false =>
    obtain ⟨elv, _⟩ := lv_plain HP.out.1 hst
    have hal := (vAlike_says (lvR o).1 o.v _ _ (HR4.out.mono (Nat.le_max_left 9 (d' + 1))) (HV4.out.mono (Nat.le_max_right 9 (d' + 1))) (by omega)).mono (fun e w' h => (And.intro (ansB_true h.1 elv) h.2 : e = .returned (.bool true) ∧ Below w4.heap.size w4 w'))
    have Hal := hid hal
    rw [hst] at X4 A4
    obtain ⟨⟨x0, x1, x2, x3, x4, x5, x6, x7⟩, _⟩ := eight_cells X4
    obtain ⟨⟨y0, y1, y2, y3, y4, y5, y6, y7⟩, _⟩ := eight_cells A4
    obtain ⟨⟨z0, z1, z2, z3, z4⟩, _⟩ := five_cells V4
    have xl := X4.lt
    have yl := A4.lt
    have zl := V4.lt
    clear hal elv X4 A4 V4
    go_wp2_with (go_at_call 25; refine Hal.out.mono ?_; rintro e w5 ⟨rfl, hb5⟩)
    go_ret
    exact ⟨rfl, hB4.trans (hb5.mono hB4.size)⟩
  | true =>
    obtain ⟨elv, hk6, hdl⟩ := lv_stream HP.out.1 hst
    obtain ⟨TV, hTV⟩ : ∃ TV : V, (⟨o.v.k, o.v.n, o.v.s, o.v.l, psetF lenN (V0 2 (o.dt.size * 1000) eB) o.v.f⟩ : V) = TV := ⟨_, rfl⟩
    have hset := vSetP (v := o.v) (x := V0 2 (o.dt.size * 1000) eB) lenN (by decide) HV4.out (rep_vc d' w4 2 (o.dt.size * 1000) eB (by decide)) (by omega) (by rw [cnt_eq]; simp [V0, cntL, cntF])
    rw [hTV] at hset
    have HE := hid (show (lvR o).1 = TV by rw [elv, ← hTV, hk6])
    unfold lenN vc at hset
    have HSet := hid hset
    rw [hst] at X4 A4
    obtain ⟨⟨y0, y1, y2, y3, y4, y5, y6, y7⟩, _⟩ := eight_cells A4
    obtain ⟨⟨z0, z1, z2, z3, z4⟩, _⟩ := five_cells V4
    have yl := A4.lt
    have zl := V4.lt
    have hd3 : (o.dt.size : Int) ≤ 20000 := by omega
    clear hset elv hTV hk6 hdl
    go_wp2_with (go_at_call 16; fail)
    clear y0 y1 y2 y3 y4 y5 y6 y7 z0 z1 z2 z3 z4 yl zl hd3
    go_at_call 16
    refine HSet.out.mono ?_
    rintro e w5 ⟨⟨c, rfl, hr5⟩, hb5⟩
    have HR5 := hid hr5
    obtain ⟨b5, g5, c5, e5, rfl, _⟩ := hr5.now
    have X5 := X4.later hb5
    have A5 := A4.later hb5
    have V5 := V4.later hb5
    obtain ⟨⟨z0, z1, z2, z3, z4⟩, k0, k1, k2, k3, k4⟩ := five_cells V5
    have zl := V5.lt
    clear hr5 X4 A4 V4 HSet
    go_upto_region 5 with fail
    have V6 := At.five V5 (.int .i64 TV.k) (.int .i64 TV.n) (.string TV.s) (.slice b5 TV.l.length c5) (.slice g5 TV.f.length e5)
    have O6 := fun (k : Nat) (h : k ≠ w2.heap.size + 1) => set5_other w5 (w2.heap.size + 1) (.int .i64 TV.k) (.int .i64 TV.n) (.string TV.s) (.slice b5 TV.l.length c5) (.slice g5 TV.f.length e5) h
    have S6 := set5_size w5 (w2.heap.size + 1) (.int .i64 TV.k) (.int .i64 TV.n) (.string TV.s) (.slice b5 TV.l.length c5) (.slice g5 TV.f.length e5)
    have hB5 := hB4.trans (hb5.mono hB4.size)
    have hB6 := below_set5 hB5 (b := w2.heap.size + 1) (by omega) (.int .i64 TV.k) (.int .i64 TV.n) (.string TV.s) (.slice b5 TV.l.length c5) (.slice g5 TV.f.length e5)
    unfold set5 at V6 O6 S6
    generalize World.setCell _ _ _ = w6 at V6 O6 S6 hB6 ⊢
    have X6 : At w6 w2.heap.size _ _ := (O6 _ (by omega)).trans X5
    have A6 : At w6 w.heap.size _ _ := (O6 _ (by omega)).trans A5
    have h45 := hb5.size
    have h24 := hb4.size
    have HR6 := (HRI.out.agree (w' := w6) (by omega) fun b hb => ((O6 b (by omega)).trans (hb5.block b (by omega))).trans (hb4.block b (by omega))).now
    have HT6 := (HR5.out.agree (w' := w6) (by omega) fun b hb => O6 b (by omega)).now
    have Hal := hid ((vAlike_says (lvR o).1 TV _ _ (HR6.mono (Nat.le_max_left 9 (d' + 2))) (HT6.mono (Nat.le_max_right 9 (d' + 2))) (by omega)).mono (fun e w' h => (And.intro (ansB_true h.1 HE.out) h.2 : e = .returned (.bool true) ∧ Below w6.heap.size w6 w')))
    obtain ⟨⟨x0, x1, x2, x3, x4, x5, x6, x7⟩, _⟩ := eight_cells X6
    obtain ⟨⟨y0, y1, y2, y3, y4, y5, y6, y7⟩, _⟩ := eight_cells A6
    obtain ⟨⟨v0, v1, v2, v3, v4⟩, _⟩ := five_cells V6
    have xl := X6.lt
    have yl := A6.lt
    have vl := V6.lt
    clear z0 z1 z2 z3 z4 k0 k1 k2 k3 k4 zl O6 S6 HR6 HT6 h45 h24 X6 A6 V6 X5 A5 V5 hB5 hb5 hb4
    go_wp2_with (go_at_call 25; refine Hal.out.mono ?_; rintro e w7 ⟨rfl, hb7⟩)
    go_ret
    exact ⟨rfl, hB6.trans (hb7.mono hB6.size)⟩
end Go.Proofs.YtflcibmjblioaaaGreatDoor

/-
  How many objects a file has; objects that are not too great.
-/
namespace Go.Proofs.YtflcibmjblioaaaGreatDoor
open Go.RowKit
set_option maxRecDepth 1000000

theorem count_all {L : List Ob} {zs : List Int} (hz : zs.Nodup) (h : ∀ x, x ∈ zs ↔ ∃ o ∈ L, o.n = x) (hn : (L.map (·.n)).Nodup) : zs.length = L.length := by
  have hp : zs.Perm (L.map (·.n)) := (List.perm_ext_iff_of_nodup hz hn).2 fun x => by rw [h x, List.mem_map]
  have := hp.length_eq
  simpa using this
/-- Is an object laid anew? -/
def anew (Q : List Ob) (n : Int) : Bool := Q.any fun q => q.n == n
theorem anew_iff {Q : List Ob} {n : Int} : anew Q n = true ↔ ∃ q ∈ Q, q.n = n := by
  unfold anew
  rw [List.any_eq_true]
  simp
theorem count_two {L Q : List Ob} {zs : List Int} (hz : zs.Nodup) (h : ∀ x, x ∈ zs ↔ (∃ o ∈ Q, o.n = x) ∨ ∃ o ∈ L, o.n = x) (hn : (L.map (·.n)).Nodup) (hq : (Q.map (·.n)).Nodup) : zs.length = Q.length + (L.filter fun o => !anew Q o.n).length := by
  have hp : zs.Perm (Q.map (·.n) ++ (L.filter fun o => !anew Q o.n).map (·.n)) := by
    refine (List.perm_ext_iff_of_nodup hz ?_).2 fun x => ?_
    · rw [List.nodup_append]
      refine ⟨hq, ?_, fun a ha b hb e => ?_⟩
      · exact hn.sublist (List.Sublist.map _ List.filter_sublist)
      · obtain ⟨q, h1, h2⟩ := List.mem_map.1 ha
        obtain ⟨o, h3, h4⟩ := List.mem_map.1 hb
        have h5 := (List.mem_filter.1 h3).2
        have : anew Q o.n = true := anew_iff.2 ⟨q, h1, by rw [h2, h4, e]⟩
        rw [this] at h5
        simp at h5
    · rw [h x, List.mem_append, List.mem_map, List.mem_map]
      constructor
      · rintro (⟨o, h1, h2⟩ | ⟨o, h1, h2⟩)
        · exact .inl ⟨o, h1, h2⟩
        · by_cases ha : anew Q o.n = true
          · obtain ⟨q, h3, h4⟩ := anew_iff.1 ha
            exact .inl ⟨q, h3, h4.trans h2⟩
          · exact .inr ⟨o, List.mem_filter.2 ⟨h1, by simpa using ha⟩, h2⟩
      · rintro (⟨o, h1, h2⟩ | ⟨o, h1, h2⟩)
        · exact .inl ⟨o, h1, h2⟩
        · exact .inr ⟨o, (List.mem_filter.1 h1).1, h2⟩
  have := hp.length_eq
  simpa using this
theorem filter_snoc {L Q : List Ob} {i : Nat} {o : Ob} (h : L[i]? = some o) : ((L.take (i + 1)).filter fun o => !anew Q o.n).length = ((L.take i).filter fun o => !anew Q o.n).length + if anew Q o.n then 0 else 1 := by
  rw [takeO_snoc h, List.filter_append, List.length_append]
  cases e : anew Q o.n <;> simp [e]
theorem anew_snoc {Q : List Ob} {k : Nat} {q : Ob} {n : Int} (h : Q[k]? = some q) : anew (Q.take (k + 1)) n = (anew (Q.take k) n || (q.n == n)) := by
  rw [takeO_snoc h]
  simp [anew]
theorem light_short_obs {L : List Ob} (h : LightO L) : Short L := fun _ _ e hA => light_len h e hA
theorem light_cnt {L : List Ob} (h : LightO L) : ∀ o ∈ L, o.v.cnt ≤ 1000000 := fun o ho => by
  have h1 := lgt_mem ho
  have h2 := h.2
  have := cnt_le_bulk o.v
  omega
end Go.Proofs.YtflcibmjblioaaaGreatDoor

/-
  The closed fact that an object stands in a file; what a built file is read as.
-/
namespace Go.Proofs.YtflcibmjblioaaaGreatDoor
open Go.RowKit
set_option maxRecDepth 1000000

/-- What Read makes of a file that was built. -/
structure BuiltF (L : List Ob) (r : Int) (T : ByteArray) (B E F : Nat) (tb : Int) (m : Int → Option Int) (w : World) : Prop where
  file : FileR B E F T tb (rootV r) m w
  at_ : ∀ o ∈ L, ∃ p : Nat, m o.n = some (p : Int) ∧ RdOb T p o
  only : ∀ x c, m x = some c → ∃ o ∈ L, o.n = x
  size : T.size ≤ 60000
theorem BuiltF.later {L : List Ob} {r : Int} {T : ByteArray} {B E F : Nat} {tb : Int} {m : Int → Option Int} {w w' : World} (h : BuiltF L r T B E F tb m w) (hb : Below w.heap.size w w') : BuiltF L r T B E F tb m w' := by
  have hE : E ≤ w.heap.size := by obtain ⟨_, _, _, _, _, _, _, _, _, _, _, _, _, _, _, _, h⟩ := h.file; exact h
  exact ⟨h.file.later (hb.mono hE), h.at_, h.only, h.size⟩
theorem readBuilt_says (M : Int) (L : List Ob) (r : Int) (T : ByteArray) (w : World) (h : Laid headL L (rootV r) T) (hG : Gr M w) :
    Calls Tryz.prog 8 #[.string T] w fun e w' => (∃ B E F tb m, e = .returned (.tuple #[.pointer (some ⟨F, 0, none⟩), .nilIface]) ∧ Hid (BuiltF L r T B E F tb m w')) ∧ Below w.heap.size w w' := by
  obtain ⟨sp, a, hr, _, _, h1, h2⟩ := built_read h
  obtain ⟨X, s1, s2, s3⟩ := hr.start
  refine (read_says M T _ _ X w hr.size hr.pdf s1 s3 s2 hr.links hr.nodup hr.few hr.tot hG).mono ?_
  rintro e w' ⟨F, rfl, hF, hb⟩
  have hs := h1 T [] (by simp) hr.size
  refine ⟨⟨_, _, F, _, _, rfl, hid ⟨hF, fun o ho => ?_, fun x c hx => ?_, hr.size⟩⟩, hb⟩
  · obtain ⟨p, p1, p2⟩ := hs.2 o ho
    exact ⟨p, p1 _ rfl, p2⟩
  · refine Classical.byContradiction fun hno => ?_
    have := (h2 (fun _ => none)).2 x rfl fun o ho e => hno ⟨o, ho, e⟩
    have hx' : tellS (fun _ => none) sp x = some c := hx
    rw [this] at hx'
    cases hx'
theorem numbersB_says (L : List Ob) (r : Int) (T : ByteArray) (B E F : Nat) (tb : Int) (m : Int → Option Int) (w : World) (h : BuiltF L r T B E F tb m w) (hn : (L.map (·.n)).Nodup) :
    Calls Tryz.prog 9 #[.pointer (some ⟨F, 0, none⟩)] w fun e w' => (∃ a c, e = .returned (.slice a L.length c)) ∧ Below w.heap.size w w' := by
  refine (numbersF_says B E F T tb _ m w h.file).mono ?_
  rintro e w' ⟨⟨a, c, zs, rfl, hz, hm⟩, hb⟩
  have : zs.length = L.length := count_all hz (fun x => by
    rw [hm x]
    constructor
    · rintro ⟨c, hc, _⟩
      exact h.only x c hc
    · rintro ⟨o, ho, e⟩
      obtain ⟨p, p1, _⟩ := h.at_ o ho
      rw [e] at p1
      exact ⟨p, p1, by omega⟩) hn
  exact ⟨⟨a, c, by rw [this]⟩, hb⟩
/-- The object of the closed fact. -/
def oneO : Ob := ⟨2, V0 1 0 eB, false, eB⟩
theorem flag0_fault : faultV (V0 1 0 eB) = 0 :=
  fault_none (by rw [cnt_eq, dep_eq]; simp [V0, cntL, cntF, depL, depF]) (by
    rw [shp_eq]
    exact ⟨.inr (.inl ⟨rfl, .inl rfl, rfl, rfl, rfl⟩), by rw [shpL_iff]; simp [V0], by rw [shpF_iff]; simp [V0]⟩)
theorem lv_one : lvR oneO = (V0 1 0 eB, 0) := by kernel_rfl
theorem one_fault : obF oneO = 0 := by
  unfold obF
  rw [if_pos (by decide), lv_one, if_neg (by simp)]
  exact flag0_fault
theorem ref2_shp : (V0 7 2 eB).Shp := by
  rw [shp_eq]
  exact ⟨.inr (.inr (.inr (.inr (.inr (.inr (.inr ⟨rfl, by decide, by decide, rfl, rfl, rfl⟩)))))), by rw [shpL_iff]; simp [V0], by rw [shpF_iff]; simp [V0]⟩
theorem root2_shp : (rootV 2).Shp := by
  have one : ∀ (i : Nat) (q : ByteArray × V), (rootV 2).f[i]? = some q → i = 0 ∧ q = (rootN, V0 7 2 eB) := fun i q h => by
    match i, h with
    | 0, h => exact ⟨rfl, by simpa [rootV] using h.symm⟩
    | i + 1, h => simp [rootV] at h
  rw [shp_eq]
  refine ⟨.inr (.inr (.inr (.inr (.inr (.inr (.inl ⟨rfl, rfl, rfl, rfl, fun i q h => ?_⟩)))))), by rw [shpL_iff]; simp [rootV], ?_⟩
  · obtain ⟨rfl, rfl⟩ := one i q h
    exact ⟨by decide, fun j p e => by omega⟩
  · rw [shpF_iff]
    intro i q h
    obtain ⟨rfl, rfl⟩ := one i q h
    exact ref2_shp
theorem root2_fault : faultV (rootV 2) = 0 :=
  fault_none (by rw [root_cnt, show (rootV 2).dep = 2 by kernel_rfl]; decide) root2_shp
theorem one_ok : LayOk headL [oneO] (rootV 2) := by
  refine ⟨fun o ho => ?_, by simp, by simp, root2_fault, ?_⟩
  · rw [List.mem_singleton.1 ho]; exact one_fault
  · have h1 := obs_len (L := [oneO]) (fun o ho => by rw [List.mem_singleton.1 ho]; exact one_fault)
    have h2 := txt_long (rootV 2) root2_shp
    have e := root_cnt 2
    have e2 := root_bulk 2
    have e3 : lgt [oneO] = 2 := by kernel_rfl
    have e4 : headL.length = 9 := rfl
    simp only [List.length_singleton] at h1
    omega
/-- A list of one object in a new block. -/
theorem obs_one {w : World} {b : Nat} {n k m : Int} {s dt : ByteArray} {a1 a2 : Option Addr} {l1 c1 l2 c2 : Nat} {st : Bool} {d : Nat} {o : Ob} (h : At w b 42 #[.int .i64 n, .int .i64 k, .int .i64 m, .string s, .slice a1 l1 c1, .slice a2 l2 c2, .bool st, .string dt]) (hn : o.n = n) (hs : o.st = st) (hd : o.dt = dt) (hdl : dt.size ≤ maxLen) (hv : RepN d w o.v [.int .i64 k, .int .i64 m, .string s, .slice a1 l1 c1, .slice a2 l2 c2]) : ObsN d w (.slice (some ⟨b, 0, none⟩) 1 1) [o] := by
  subst hn hs hd
  obtain ⟨⟨q0, q1, q2, q3, q4, q5, q6, q7⟩, _⟩ := eight_cells h
  refine ⟨_, 1, rfl, by show 1 ≤ maxLen; unfold maxLen; decide, fun i x hx => ?_⟩
  match i, hx with
  | 0, hx =>
    obtain rfl : o = x := by simpa using hx
    refine ⟨b, 0, _, rfl, h.lt, fun j c hc => ?_, hdl, hv⟩
    match j, hc with
    | 0, hc => obtain rfl := Option.some.inj hc; exact q0
    | 1, hc => obtain rfl := Option.some.inj hc; exact q1
    | 2, hc => obtain rfl := Option.some.inj hc; exact q2
    | 3, hc => obtain rfl := Option.some.inj hc; exact q3
    | 4, hc => obtain rfl := Option.some.inj hc; exact q4
    | 5, hc => obtain rfl := Option.some.inj hc; exact q5
    | 6, hc => obtain rfl := Option.some.inj hc; exact q6
    | 7, hc => obtain rfl := Option.some.inj hc; exact q7
    | j + 8, hc => simp [obC] at hc
  | i + 1, hx => simp at hx
theorem one_light : LightO [oneO] := ⟨by simp, by rw [show lgt [oneO] = 2 by kernel_rfl]; decide⟩
theorem one_kind : (lvR oneO).1.k = 1 := by rw [lv_one]; rfl
theorem buildOne_says (M : Int) (w : World) (b : Nat) (h : At w b 42 #[.int .i64 2, .int .i64 1, .int .i64 0, .string ⟨#[]⟩, .slice none 0 0, .slice none 0 0, .bool false, .string ⟨#[]⟩]) (hG : Gr M w) :
    Calls Tryz.prog 7 #[.slice (some ⟨b, 0, none⟩) 1 1, .int .i64 2] w fun e w' => (∃ T, Hid (Laid headL [oneO] (rootV 2) T) ∧ e = .returned (.tuple #[.string T, .nilIface])) ∧ Below w.heap.size w w' := by
  have ho : ObsN 1 w (.slice (some ⟨b, 0, none⟩) 1 1) [oneO] := obs_one h rfl rfl rfl (by decide) (rep_vc 0 w 1 0 eB (by decide))
  refine (build_says M 1 _ [oneO] 2 w ho (light_short_obs one_light) (light_cnt one_light) hG.rdy).mono ?_
  rintro e w' ⟨(⟨_, hE⟩ | ⟨hn, _⟩), hb⟩
  · rcases hE with ⟨T, hT, rfl⟩ | ⟨k, _, hn, _⟩
    · exact ⟨⟨T, hid hT, rfl⟩, hb⟩
    · exact absurd one_ok hn
  · exact absurd (by decide) hn
set_option maxHeartbeats 2000000 in
theorem stands_says (M : Int) (w : World) (hG : Gr M w) : Calls Tryz.prog 5 #[] w fun e w' => e = .returned (.bool true) ∧ Below w.heap.size w w' := by
  have HG := hid hG
  clear hG
  go_enter Tryz.func5, Tryz.ntmps5
  go_wp2_with (go_at_call 7; fail)
  have hb1 := below_box w (.cells #[.int .i64 2, .int .i64 1, .int .i64 0, .string ⟨#[]⟩, .slice none 0 0, .slice none 0 0, .bool false, .string ⟨#[]⟩] 42)
  go_at_call 7
  refine (buildOne_says M _ w.heap.size (At.new w _ _ rfl) (HG.out.below hb1)).mono ?_
  rintro e w2 ⟨⟨T, HT, rfl⟩, hb2⟩
  have hB2 : Below w.heap.size w w2 := hb1.trans (hb2.mono hb1.size)
  clear hb1 hb2
  go_wp2_with (go_at_call 8; fail)
  go_at_call 8
  refine (readBuilt_says M [oneO] 2 T w2 HT.out (HG.out.below hB2)).mono ?_
  rintro e w3 ⟨⟨B, E, F, tb, m, rfl, HF⟩, hb3⟩
  have hB3 := hB2.trans (hb3.mono hB2.size)
  obtain ⟨p, p1, p2⟩ := HF.out.at_ oneO (by simp)
  have hget := get_says M B E F T tb (rootV 2) m oneO p w3 HF.out.size HF.out.file p1 p2 one_fault (HG.out.below hB3)
  rw [show oneO.n = 2 from rfl] at hget
  have HGet := hid hget
  clear hget p1 p2 hB2 hb3
  go_wp2_with (go_at_call 13; fail)
  go_at_call 13
  refine HGet.out.mono ?_
  rintro e w4 ⟨cs, rfl, hrp, hb4⟩
  have hB4 := hB3.trans (hb4.mono hB3.size)
  have HN := hid (fun (w5 : World) (h : Below w4.heap.size w4 w5) => numbersB_says [oneO] 2 T B E F tb m w5 (HF.out.later (hb4.trans (h.mono hb4.size))) (by simp))
  obtain ⟨g1, g2, n1, n2, rfl, _⟩ := hrp.out.now
  rw [one_kind]
  unfold obC
  simp only [List.cons_append, List.nil_append]
  clear hrp hb4 HGet
  go_wp2_with (go_at_call 9; refine (HN.out _ (below_box w4 _)).mono ?_; rintro e w5 ⟨⟨z1, z2, rfl⟩, hb5⟩)
  go_ret
  exact ⟨rfl, hB4.trans (((below_box w4 _).trans (hb5.mono (by simp))).mono hB4.size)⟩
end Go.Proofs.YtflcibmjblioaaaGreatDoor
