/-
  Joined: Lx0, Ln, Lo.
-/
import Derived.Test.YtflcibmjblioaaaGreatDoorLu
import Derived.Test.YtflcibmjblioaaaGreatDoorLm
import Derived.Test.YtflcibmjblioaaaGreatDoorLr

/-
  Objects are laid behind a text (file.lay): plain facts, and how far it has come.
-/
namespace Go.Proofs.YtflcibmjblioaaaGreatDoor
open Go.RowKit Go.Lib Go.Maps
set_option maxRecDepth 1000000

/-- All is right with what is to be laid, and it is not too long. -/
def LayOk (base : List UInt8) (L : List Ob) (v : V) : Prop := (∀ o ∈ L, obF o = 0) ∧ (L.map (·.n)).Nodup ∧ L.length ≤ 60 ∧ faultV v = 0 ∧ base.length + (L.flatMap obT).length + v.txt.length ≤ 50000
/-- What lay answers. -/
def LayE (base : List UInt8) (L : List Ob) (v : V) (e : Ending) : Prop :=
  (∃ T, Laid base L v T ∧ e = .returned (.tuple #[.string T, .nilIface])) ∨ (∃ k, k ≠ 0 ∧ ¬ LayOk base L v ∧ e = .returned (.tuple #[.string ⟨#[]⟩, errN k]))
/-- The map of places. -/
abbrev whM (k : Nat) (L : List Ob) : Int → Option Int := whZ (fun _ => none) k L
theorem whM_some {k : Nat} {L : List Ob} {x c : Int} (h : whM k L x = some c) : ∃ o ∈ L, o.n = x := by
  by_cases hx : ∃ o ∈ L, o.n = x
  · exact hx
  · have := whZ_other L (fun _ => none) k x (fun o ho e => hx ⟨o, ho, e⟩)
    rw [show whM k L x = whZ (fun _ => none) k L x from rfl, this] at h
    cases h
theorem whM_at {k : Nat} {L : List Ob} {o : Ob} (h : o ∈ L) (hn : (L.map (·.n)).Nodup) : ∃ L1 L2, L = L1 ++ L2 ∧ whM k L o.n = some ((k + (L1.flatMap obT).length : Nat) : Int) := by
  obtain ⟨L1, L2, e, _, h2⟩ := split_ob h hn
  refine ⟨L1, o :: L2, e, ?_⟩
  have := whZ_at L1 o L2 (fun _ => none) k h2
  rw [← e] at this
  exact this
/-- Texts stay short. -/
def Short (L : List Ob) : Prop := ∀ A B, L = A ++ B → (∀ o ∈ A, obF o = 0) → (A.flatMap obT).length ≤ 1200000
theorem whM_bound {k : Nat} {L : List Ob} (hk : k ≤ 60000) (hS : Short L) (hok : ∀ o ∈ L, obF o = 0) (hn : (L.map (·.n)).Nodup) : ∀ x c, whM k L x = some c → 1 ≤ x ∧ x ≤ 60 ∧ 0 ≤ c ∧ c < 10000000 := fun x c h => by
  obtain ⟨o, ho, e⟩ := whM_some h
  obtain ⟨L1, L2, e1, e2⟩ := whM_at (k := k) ho hn
  rw [e, h] at e2
  injection e2 with e2
  have h1 := (obF_parts (hok o ho)).1
  have := hS L1 L2 e1 (fun q hq => hok q (by rw [e1]; simp [hq]))
  omega
theorem whM_iff {k : Nat} {L : List Ob} {ns : List Nat} (hn : (L.map (·.n)).Nodup) (h : ∀ j : Nat, j ∈ ns ↔ ∃ c, whM k L (j : Int) = some c) : ∀ n : Nat, n ∈ ns ↔ ∃ o ∈ L, o.n = (n : Int) := fun n => by
  rw [h n]
  constructor
  · rintro ⟨c, hc⟩
    exact whM_some hc
  · rintro ⟨o, ho, e⟩
    obtain ⟨L1, L2, _, e2⟩ := whM_at (k := k) ho hn
    rw [e] at e2
    exact ⟨_, e2⟩
theorem whM_few {k : Nat} {L : List Ob} (hok : ∀ o ∈ L, obF o = 0) (hn : (L.map (·.n)).Nodup) (hf : L.length ≤ 60) : ∀ ns : List Nat, ns.Nodup → (∀ j : Nat, j ∈ ns ↔ ∃ c, whM k L (j : Int) = some c) → ns.length ≤ 60 := fun ns h1 h2 => by
  rw [ns_len h1 (whM_iff hn h2) hn (fun o ho => (obF_parts (hok o ho)).1)]
  exact hf
/-- How far lay has come. -/
structure LayW (P mb : Nat) (w0 : World) (base : List UInt8) (L : List Ob) (i : Nat) (wr : World) : Prop where
  ok : ∀ o ∈ L.take i, obF o = 0
  nd : ((L.take i).map (·.n)).Nodup
  bd : Bd P (P + 1) wr (base ++ (L.take i).flatMap obT)
  mp : ∃ n, n ≤ i ∧ MapZ wr mb n (whM base.length (L.take i))
  below : Below P w0 wr
  pm : P < mb
theorem LayW.later {P mb : Nat} {w0 wr w' : World} {base : List UInt8} {L : List Ob} {i : Nat} (h : LayW P mb w0 base L i wr) (hb : Below wr.heap.size wr w') : LayW P mb w0 base L i w' := by
  obtain ⟨n, h1, h2⟩ := h.mp
  have := h2.lt
  have := h.pm
  exact ⟨h.ok, h.nd, h.bd.later hb, ⟨n, h1, h2.later hb⟩, h.below.trans (hb.mono (by omega)), h.pm⟩
theorem takeO_snoc {L : List Ob} {i : Nat} {o : Ob} (h : L[i]? = some o) : L.take (i + 1) = L.take i ++ [o] := by rw [List.take_add_one, h]; rfl
theorem flat_snoc {L : List Ob} {i : Nat} {o : Ob} (h : L[i]? = some o) : (L.take (i + 1)).flatMap obT = (L.take i).flatMap obT ++ obT o := by rw [takeO_snoc h, List.flatMap_append, List.flatMap_singleton]
theorem short_take {L : List Ob} (h : Short L) {i : Nat} (hok : ∀ o ∈ L.take i, obF o = 0) : ((L.take i).flatMap obT).length ≤ 1200000 := h _ _ (List.take_append_drop i L).symm hok
theorem not_twice {k : Nat} {L : List Ob} {i : Nat} {o : Ob} (h : L[i]? = some o) (hw : whM k (L.take i) o.n = none) (hn : ((L.take i).map (·.n)).Nodup) : ((L.take (i + 1)).map (·.n)).Nodup := by
  rw [takeO_snoc h, List.map_append, List.nodup_append]
  refine ⟨hn, by simp, fun a ha b hb e => ?_⟩
  simp at hb
  subst hb e
  obtain ⟨q, hq, e⟩ := List.mem_map.1 ha
  obtain ⟨_, _, _, e2⟩ := whM_at (k := k) hq hn
  rw [e, hw] at e2
  cases e2
theorem twice_not {k : Nat} {L : List Ob} {i : Nat} {o : Ob} {c : Int} (h : L[i]? = some o) (hw : whM k (L.take i) o.n = some c) : ¬ (L.map (·.n)).Nodup := fun hn => by
  obtain ⟨q, hq, e⟩ := whM_some hw
  obtain ⟨hi, he⟩ := List.getElem?_eq_some_iff.1 h
  have e1 : L = L.take i ++ o :: L.drop (i + 1) := by
    conv => lhs; rw [← List.take_append_drop i L, List.drop_eq_getElem_cons hi, he]
  rw [e1, List.map_append, List.map_cons, List.nodup_append] at hn
  exact hn.2.2 _ (List.mem_map.2 ⟨q, hq, rfl⟩) _ (by simp) e
/-- One object more: its place is kept. -/
theorem LayW.put {P mb : Nat} {w0 wr w5 : World} {base : List UInt8} {L : List Ob} {i n : Nat} {o : Ob} (h : LayW P mb w0 base L i wr) (ho : L[i]? = some o) (hM : MapZ w5 mb n (putZ (whM base.length (L.take i)) o.n ((base ++ (L.take i).flatMap obT).length : Nat))) (hg : wr.grownBy w5 (some mb)) (hk : ∀ c fz, wr.heap[mb]? ≠ some (.cells c 5 fz)) :
    Bd P (P + 1) w5 (base ++ (L.take i).flatMap obT) ∧ MapZ w5 mb n (whM base.length (L.take (i + 1))) ∧ Below P w0 w5 := by
  have hpm := h.pm
  refine ⟨h.bd.keep (KeepS.grown hg rfl) (by omega) hk, ?_, ?_⟩
  · rw [show whM base.length (L.take (i + 1)) = putZ (whM base.length (L.take i)) o.n ((base ++ (L.take i).flatMap obT).length : Nat) by
      unfold whM
      rw [takeO_snoc ho, whZ_snoc, List.length_append]]
    exact hM
  · exact h.below.trans ⟨hg.os, hg.tape, hg.output, hg.size, fun k hk => hg.block k (by have := h.bd.1; have := h.bd.2.1; omega) (fun e => by injection e with e; omega)⟩
theorem MapZ.kind {w : World} {b n : Nat} {m : Int → Option Int} (h : MapZ w b n m) : ∀ c fz, w.heap[b]? ≠ some (.cells c 5 fz) := fun c fz e => by
  obtain ⟨D, h1, _⟩ := h
  obtain ⟨es, clock, hh, _⟩ := h1
  rw [hh] at e
  cases e
/-- The last lines of a table. -/
def lastB (X A : ByteArray) : ByteArray := ⟨(trailW ++ 10 :: (X.data.toList ++ 10 :: (startW ++ 10 :: (A.data.toList ++ 10 :: (eofW ++ [10]))))).toArray⟩
theorem lastB_list (X A : ByteArray) : (lastB X A).data.toList = trailW ++ 10 :: (X.data.toList ++ 10 :: (startW ++ 10 :: (A.data.toList ++ 10 :: (eofW ++ [10])))) := rfl
theorem lastB_size (X A : ByteArray) : (lastB X A).size = X.size + A.size + 26 := by
  rw [szL, lastB_list]
  have h1 := szL X
  have h2 := szL A
  unfold trailW startW eofW
  simp only [List.length_append, List.length_cons, List.length_nil]
  omega
theorem tab_text {X : ByteArray} {sp : List (Nat × List Nat)} {v : V} {a : Nat} (hX : X.data.toList = v.txt) : (catB (catB (lnB ⟨#[120, 114, 101, 102]⟩) ⟨(spsT sp).toArray⟩) (lastB X (decB a))).data.toList = tabT sp v.txt a := by
  simp only [catB_list, lnB, lastB_list, hX]
  unfold tabT endT decB xrefW
  simp
/-- The lines behind the spans. -/
theorem line_last (X A : ByteArray) (W : World) (h : X.size + A.size ≤ 1000000) : Calls Tryz.prog 39 #[.slice (some ⟨W.heap.size, 0, none⟩) 5 5] (W.alloc (.cells #[.string ⟨#[116, 114, 97, 105, 108, 101, 114]⟩, .string X, .string ⟨#[115, 116, 97, 114, 116, 120, 114, 101, 102]⟩, .string A, .string ⟨#[37, 37, 69, 79, 70]⟩] 9)) fun e w' => e = .returned (.string (lastB X A)) ∧ Below W.heap.size W w' :=
  lines_new [⟨#[116, 114, 97, 105, 108, 101, 114]⟩, X, ⟨#[115, 116, 97, 114, 116, 120, 114, 101, 102]⟩, A, ⟨#[37, 37, 69, 79, 70]⟩] 5 _ (lastB X A) W rfl rfl (by simp) (by simp [Lib.join, List.intercalate]; omega) (by rw [lastB_list]; simp [linesL, Lib.join, List.intercalate, trailW, startW, eofW])
/-- What was laid. -/
theorem laid_of {base : List UInt8} {L : List Ob} {v : V} {ns : List Nat} {T : ByteArray} (hok : ∀ o ∈ L, obF o = 0) (hnd : (L.map (·.n)).Nodup) (hf : L.length ≤ 60) (hv : faultV v = 0) (hT : T.size ≤ 60000) (h1 : ns.Nodup) (h2 : ∀ j : Nat, j ∈ ns ↔ ∃ c, whM base.length L (j : Int) = some c)
    (ht : T.data.toList = base ++ L.flatMap obT ++ tabT (grpF (gM (whM base.length L)) ns.length ns) v.txt (base ++ L.flatMap obT).length) : Laid base L v T :=
  ⟨hok, hnd, hf, hv, hT, ns, h1, whM_iff hnd h2, by rw [ht, List.length_append, List.append_assoc]; rfl⟩
theorem tab_short {base : List UInt8} {L : List Ob} {ns : List Nat} (hb : base.length ≤ 60000) (hS : Short L) (hok : ∀ o ∈ L, obF o = 0) (hnd : (L.map (·.n)).Nodup) (hf : L.length ≤ 60) (h1 : ns.Nodup) (h2 : ∀ j : Nat, j ∈ ns ↔ ∃ c, whM base.length L (j : Int) = some c) :
    (spsT (grpF (gM (whM base.length L)) ns.length ns)).length ≤ 1920 := by
  have h60 := whM_few hok hnd hf ns h1 h2
  have hm := whM_bound hb hS hok hnd
  have := grp_long (gM (whM base.length L)) ns.length ns (fun n hn => by
    obtain ⟨c, hc⟩ := (h2 n).1 hn
    have q := hm _ _ hc
    refine ⟨by omega, ?_⟩
    unfold gM
    rw [hc]
    simp
    omega) (by omega)
  omega
/-- Too long: then it was too long ahead of the table. -/
theorem lay_long {base : List UInt8} {L : List Ob} {v : V} {sp : List (Nat × List Nat)} {T : ByteArray} {a : Nat} (hsp : (spsT sp).length ≤ 1920) (ha : a < 10000000) (ht : T.data.toList = base ++ L.flatMap obT ++ tabT sp v.txt a) (hT : ¬ T.size ≤ 60000) : ¬ LayOk base L v := by
  rintro ⟨_, _, _, _, h⟩
  have := dec_len7 ha
  rw [szL, ht] at hT
  apply hT
  unfold tabT endT xrefW trailW startW eofW
  simp only [List.length_append, List.length_cons, List.length_nil]
  omega
theorem lay_short {s : ByteArray} {L : List Ob} {i : Nat} (hs : s.size ≤ 60000) (hS : Short L) (hok : ∀ o ∈ L.take i, obF o = 0) : (s.data.toList ++ (L.take i).flatMap obT).length ≤ 1300000 := by
  have h1 := short_take hS hok
  have h2 := szL s
  rw [List.length_append]
  omega
theorem ok_snoc {L : List Ob} {i : Nat} {o : Ob} (hok : ∀ q ∈ L.take i, obF q = 0) (h0 : obF o = 0) (ho : L[i]? = some o) : ∀ q ∈ L.take (i + 1), obF q = 0 := fun q hq => by
  rw [takeO_snoc ho, List.mem_append] at hq
  rcases hq with hq | hq
  · exact hok q hq
  · rw [List.mem_singleton.1 hq]; exact h0
theorem ob_len1 {L : List Ob} {i : Nat} {o : Ob} (hS : Short L) (hok : ∀ q ∈ L.take i, obF q = 0) (h0 : obF o = 0) (ho : L[i]? = some o) : (obT o).length ≤ 1200000 := by
  have := short_take hS (ok_snoc hok h0 ho)
  rw [flat_snoc ho, List.length_append] at this
  omega
theorem obT_ne (o : Ob) : (obT o).length ≠ 0 := by
  unfold obT
  simp
theorem i_less {L k : Nat} (h : k < L) : L - (intOf (Value.int .i64 ((k : Int) + 1))).toNat < L - (intOf (Value.int .i64 (k : Int))).toNat := by
  simp [intOf]
  omega
/-- One object more was written. -/
theorem LayW.next {P mb : Nat} {w0 wr w5 w7 : World} {base : List UInt8} {L : List Ob} {i : Nat} {o : Ob} {X : ByteArray} (h : LayW P mb w0 base L i wr) (ho : L[i]? = some o) (h0 : obF o = 0) (hX : X.data.toList = obT o) (hw : whM base.length (L.take i) o.n = none)
    (hbd : Bd P (P + 1) w7 (base ++ (L.take i).flatMap obT ++ X.data.toList)) (hm : ∃ n, n ≤ i + 1 ∧ MapZ w5 mb n (whM base.length (L.take (i + 1)))) (hB : Below P w0 w5) (hK : KeepO P w5 w7) : LayW P mb w0 base L (i + 1) w7 := by
  have hpm := h.pm
  obtain ⟨n, q1, q2⟩ := hm
  refine ⟨ok_snoc h.ok h0 ho, not_twice ho hw h.nd, ?_, ⟨n, q1, q2.others hK (by omega)⟩, hB.trans hK.below, hpm⟩
  rw [flat_snoc ho, ← hX, ← List.append_assoc]
  exact hbd
theorem wr_len {xs : List UInt8} {X : ByteArray} {o : Ob} (h1 : xs.length ≤ 1300000) (hX : X.data.toList = obT o) (h2 : (obT o).length ≤ 1200000) : xs.length + X.size ≤ 100000000 ∧ X.size ≠ 0 := by
  have h3 := obT_ne o
  rw [szL, hX]
  omega
theorem num_small {n : Int} (h : 1 ≤ n ∧ n ≤ 60) : -1000000000000 ≤ n ∧ n ≤ 1000000000000 := by omega
theorem len_small {c : Nat} (h : c ≤ 1300000) : -1000000000000 ≤ (c : Int) ∧ (c : Int) ≤ 1000000000000 := by omega
theorem num_few {n i L : Nat} (h1 : n ≤ i) (h2 : i < L) (h3 : L ≤ 60) : n < 1000000 := by omega
end Go.Proofs.YtflcibmjblioaaaGreatDoor

/-
  The bytes of a stream (file's reader.data).
-/
namespace Go.Proofs.YtflcibmjblioaaaGreatDoor
open Go.RowKit Go.Lib Go.Maps
set_option maxRecDepth 1000000

set_option maxHeartbeats 2000000 in
theorem data_says {d : Nat} (P : Nat) (s rest dt : ByteArray) (v g : V) (cs : List Value) (b4 c dl : Nat) (w : World) (hs : s.size ≤ 100000) (hb4 : b4 ≤ s.size) (hR : RdF w P s b4) (hv : RepN d w v cs) (hcn : v.cnt ≤ 1048576) (hg : getF lenN v.f = some g) (hgk : g.k = 2) (hgn : g.n = (dl : Int) * 1000)
    (hrest : (s.extract b4 s.size).data.toList = 10 :: rest.data.toList) (ht : TokF rest dl endsW c) (hd : rest.extract 0 dl = dt) (hdl : dl ≤ 20000) :
    Calls Tryz.prog 29 #[.pointer (some ⟨P, 0, none⟩), .agg cs.toArray] w fun e w' => e = .returned (.tuple #[.string dt, .nilIface]) ∧ Below w.heap.size w w' := by
  obtain ⟨d', rfl⟩ := hv.inv
  have HV := hid hv
  have HR := hid hR
  have HT := hid ht
  have hPl := hR.lt
  obtain ⟨al, af, cl, cf, rfl, _⟩ := hv
  have hrs : rest.size ≤ 100000 := by
    have := congrArg List.length hrest
    simp at this
    omega
  have hdr : dl ≤ rest.size := by obtain ⟨p0, hp0, _, _, _, _, hdr⟩ := ht; exact hdr
  obtain ⟨T1, hT1⟩ : ∃ T1, s.extract b4 s.size = T1 := ⟨_, rfl⟩
  rw [hT1] at hrest
  have htp := fun W => Tryz.strings_TrimPrefix T1 ⟨#[13]⟩ W
  have e1 : (⟨(Lib.trimPrefix T1.data.toList (⟨#[13]⟩ : ByteArray).data.toList).toArray⟩ : ByteArray) = T1 := by
    apply ba_ext
    rw [hrest]
    simp [Lib.trimPrefix, Lib.hasPrefix]
  rw [e1] at htp
  have hcp := fun W => Tryz.strings_CutPrefix T1 ⟨#[10]⟩ W
  have e2 : (⟨(Lib.trimPrefix T1.data.toList (⟨#[10]⟩ : ByteArray).data.toList).toArray⟩ : ByteArray) = rest := by
    apply ba_ext
    rw [hrest]
    simp [Lib.trimPrefix, Lib.hasPrefix]
  have e3 : Lib.hasPrefix T1.data.toList (⟨#[10]⟩ : ByteArray).data.toList = true := by
    rw [hrest]
    simp [Lib.hasPrefix]
  rw [e2, e3] at hcp
  have HTP := hid htp
  have HCP := hid hcp
  have HE := hid (And.intro hrest hd)
  clear htp hcp e1 e2 e3 hrest hR ht hd
  go_enter Tryz.func29, Tryz.ntmps29
  go_wp2_with (go_at_call 24; fail)
  go_at_call 24
  refine (vGet_says lenN (HV.out.later (below_box w _)) hcn).mono ?_
  rintro e w1 ⟨⟨c', rfl, hr1⟩, hb1⟩
  rw [hg] at hr1 ⊢
  simp only [Option.getD_some, Option.isSome_some] at hr1 ⊢
  obtain ⟨al2, af2, cl2, cf2, rfl, _⟩ := hr1
  rw [hgk, hgn]
  have hB1 : Below w.heap.size w w1 := (below_box w _).trans (hb1.mono (by simp))
  clear hb1
  go_wp2_with (go_at_call 50; fail)
  go_at_call 50
  refine (fwhole_says dl g.s al2 af2 _ _ _ _ _ (by omega)).mono ?_
  rintro e w2 ⟨rfl, hb2⟩
  have hB2 : Below w.heap.size w w2 := (hB1.alloc hB1.size _).trans (hb2.mono (by have := hB1.size; simp; omega))
  clear hB1 hb2
  have hR2 := HR.out.later hB2
  have c0 := hR2.cell 0
  have c1 := hR2.cell 1
  have z2 := hR2.lt
  simp at c0 c1
  go_upto_region 5 with fail
  go_quiet (first | (go_at_call 58; refine Calls.quiet_of_same (HTP.out _)) | (go_at_call 57; refine Calls.quiet_of_same (HCP.out _)))
  have hB3 : Below w.heap.size w (w2.drewN nq) := hB2.trans (⟨rfl, rfl, rfl, Nat.le_refl _, fun _ _ => rfl⟩ : Below w.heap.size w2 (w2.drewN nq))
  generalize w2.drewN nq = w3 at hB3 ⊢
  clear c0 c1 z2 hR2 hB2 HTP HCP
  have hd1 : ¬ ((rest.size : Int) < dl) := by omega
  have hd2 : ¬ ((20000 : Int) < dl) := by omega
  go_wp2_with (go_at_call 21; fail)
  go_at_call 21
  refine (fwordT HT.out _ _ hrs (At.new w3 _ _ rfl)).mono ?_
  rintro e w4 ⟨rfl, _, hK4⟩
  have hB4 : Below w.heap.size w w4 := (KeepS.but (S := fun k => k = w3.heap.size) hK4 rfl).below (hB3.alloc hB3.size _) (fun k h => by have := hB3.size; omega)
  have hsl : rest.extract 0 dl = dt := HE.out.2
  unfold endsW
  go_wp2_with fail
  go_ret2
  exact ⟨rfl, hB4⟩
end Go.Proofs.YtflcibmjblioaaaGreatDoor

/-
  An object is read (file's Get).
-/
namespace Go.Proofs.YtflcibmjblioaaaGreatDoor
open Go.RowKit Go.Lib Go.Maps
set_option maxRecDepth 1000000

/-- The value was read: it lies in a block, all else is as it was. -/
theorem got_va {wr w5 : World} {o : Obj} {v : V} {k q : Int} {t : ByteArray} {a1 a2 : Option Addr} {l1 p1 l2 p2 : Nat}
    (A5 : At w5 wr.heap.size 40 (vc 0 0 ⟨#[]⟩)) (H5 : Hid (RepIn (fun b => (wr.drew.alloc o).heap.size ≤ b ∧ b < w5.heap.size) 9 w5 v [.int .i64 k, .int .i64 q, .string t, .slice a1 l1 p1, .slice a2 l2 p2])) (hb : Below wr.heap.size wr w5) :
    ∃ Q, Q = wr.heap.size ∧ At (set5 w5 wr.heap.size (.int .i64 k) (.int .i64 q) (.string t) (.slice a1 l1 p1) (.slice a2 l2 p2)) Q 40 #[.int .i64 k, .int .i64 q, .string t, .slice a1 l1 p1, .slice a2 l2 p2] ∧
      Hid (RepIn (fun b => wr.heap.size ≤ b ∧ b < (set5 w5 wr.heap.size (.int .i64 k) (.int .i64 q) (.string t) (.slice a1 l1 p1) (.slice a2 l2 p2)).heap.size) 9 (set5 w5 wr.heap.size (.int .i64 k) (.int .i64 q) (.string t) (.slice a1 l1 p1) (.slice a2 l2 p2)) v [.int .i64 k, .int .i64 q, .string t, .slice a1 l1 p1, .slice a2 l2 p2]) ∧
      Below wr.heap.size wr (set5 w5 wr.heap.size (.int .i64 k) (.int .i64 q) (.string t) (.slice a1 l1 p1) (.slice a2 l2 p2)) := by
  have hK5 : KeepS (fun i => i = wr.heap.size) w5 (set5 w5 wr.heap.size (.int .i64 k) (.int .i64 q) (.string t) (.slice a1 l1 p1) (.slice a2 l2 p2)) := by
    have r : (fun i => i = wr.heap.size) wr.heap.size := rfl
    exact (((((KeepS.refl (fun i => i = wr.heap.size) w5).set (P := wr.heap.size) r 0 _).set (P := wr.heap.size) r 1 _).set (P := wr.heap.size) r 2 _).set (P := wr.heap.size) r 3 _).set (P := wr.heap.size) r 4 _
  have hz : (wr.drew.alloc o).heap.size = wr.heap.size + 1 := by simp
  exact ⟨_, rfl, At.five A5 _ _ _ _ _, hid ((H5.out.agree hK5.size fun b hb => hK5.block b hb.2 (by have := hb.1; omega)).mono fun b hb => ⟨by have := hb.1; omega, Nat.lt_of_lt_of_le hb.2 hK5.size⟩), hK5.below hb (fun k h => by omega)⟩
theorem got_vb {wr w5 : World} {v : V} {k q : Int} {t : ByteArray} {a1 a2 : Option Addr} {l1 p1 l2 p2 : Nat}
    (H5 : Hid (RepIn (fun b => wr.drew.heap.size ≤ b ∧ b < w5.heap.size) 9 w5 v [.int .i64 k, .int .i64 q, .string t, .slice a1 l1 p1, .slice a2 l2 p2])) (hb : Below wr.heap.size wr w5) :
    ∃ Q, Q = w5.heap.size ∧ At (w5.alloc (.cells #[.int .i64 k, .int .i64 q, .string t, .slice a1 l1 p1, .slice a2 l2 p2] 40)) Q 40 #[.int .i64 k, .int .i64 q, .string t, .slice a1 l1 p1, .slice a2 l2 p2] ∧
      Hid (RepIn (fun b => wr.heap.size ≤ b ∧ b < (w5.alloc (.cells #[.int .i64 k, .int .i64 q, .string t, .slice a1 l1 p1, .slice a2 l2 p2] 40)).heap.size) 9 (w5.alloc (.cells #[.int .i64 k, .int .i64 q, .string t, .slice a1 l1 p1, .slice a2 l2 p2] 40)) v [.int .i64 k, .int .i64 q, .string t, .slice a1 l1 p1, .slice a2 l2 p2]) ∧
      Below wr.heap.size wr (w5.alloc (.cells #[.int .i64 k, .int .i64 q, .string t, .slice a1 l1 p1, .slice a2 l2 p2] 40)) := by
  have hB5 := below_box w5 (.cells #[.int .i64 k, .int .i64 q, .string t, .slice a1 l1 p1, .slice a2 l2 p2] 40)
  exact ⟨_, rfl, At.new w5 _ _ rfl, hid ((H5.out.agree hB5.size fun b hb => hB5.block b hb.2).mono fun b hb => ⟨hb.1, Nat.lt_of_lt_of_le hb.2 hB5.size⟩), hb.alloc hb.size _⟩
/-- Eight cells of a block are set. -/
def set8 (w : World) (b : Nat) (v0 v1 v2 v3 v4 v5 v6 v7 : Value) : World := (((((((w.setCell ⟨b, 0, none⟩ v0).setCell ⟨b, 1, none⟩ v1).setCell ⟨b, 2, none⟩ v2).setCell ⟨b, 3, none⟩ v3).setCell ⟨b, 4, none⟩ v4).setCell ⟨b, 5, none⟩ v5).setCell ⟨b, 6, none⟩ v6).setCell ⟨b, 7, none⟩ v7
theorem At.eight {w : World} {b : Nat} {T : TypeId} {u0 u1 u2 u3 u4 u5 u6 u7 : Value} (h : At w b T #[u0, u1, u2, u3, u4, u5, u6, u7]) (v0 v1 v2 v3 v4 v5 v6 v7 : Value) : At (set8 w b v0 v1 v2 v3 v4 v5 v6 v7) b T #[v0, v1, v2, v3, v4, v5, v6, v7] := by
  unfold set8
  have h0 : At (w.setCell ⟨b, 0, none⟩ v0) b T #[v0, u1, u2, u3, u4, u5, u6, u7] := heap_setCell_same w b 0 _ _ v0 h
  generalize w.setCell ⟨b, 0, none⟩ v0 = W0 at h0 ⊢
  have h1 : At (W0.setCell ⟨b, 1, none⟩ v1) b T #[v0, v1, u2, u3, u4, u5, u6, u7] := heap_setCell_same W0 b 1 _ _ v1 h0
  generalize W0.setCell ⟨b, 1, none⟩ v1 = W1 at h1 ⊢
  have h2 : At (W1.setCell ⟨b, 2, none⟩ v2) b T #[v0, v1, v2, u3, u4, u5, u6, u7] := heap_setCell_same W1 b 2 _ _ v2 h1
  generalize W1.setCell ⟨b, 2, none⟩ v2 = W2 at h2 ⊢
  have h3 : At (W2.setCell ⟨b, 3, none⟩ v3) b T #[v0, v1, v2, v3, u4, u5, u6, u7] := heap_setCell_same W2 b 3 _ _ v3 h2
  generalize W2.setCell ⟨b, 3, none⟩ v3 = W3 at h3 ⊢
  have h4 : At (W3.setCell ⟨b, 4, none⟩ v4) b T #[v0, v1, v2, v3, v4, u5, u6, u7] := heap_setCell_same W3 b 4 _ _ v4 h3
  generalize W3.setCell ⟨b, 4, none⟩ v4 = W4 at h4 ⊢
  have h5 : At (W4.setCell ⟨b, 5, none⟩ v5) b T #[v0, v1, v2, v3, v4, v5, u6, u7] := heap_setCell_same W4 b 5 _ _ v5 h4
  generalize W4.setCell ⟨b, 5, none⟩ v5 = W5 at h5 ⊢
  have h6 : At (W5.setCell ⟨b, 6, none⟩ v6) b T #[v0, v1, v2, v3, v4, v5, v6, u7] := heap_setCell_same W5 b 6 _ _ v6 h5
  generalize W5.setCell ⟨b, 6, none⟩ v6 = W6 at h6 ⊢
  have h7 : At (W6.setCell ⟨b, 7, none⟩ v7) b T #[v0, v1, v2, v3, v4, v5, v6, v7] := heap_setCell_same W6 b 7 _ _ v7 h6
  exact h7
theorem keep_set8 {w : World} {b : Nat} (v0 v1 v2 v3 v4 v5 v6 v7 : Value) : KeepS (fun k => k = b) w (set8 w b v0 v1 v2 v3 v4 v5 v6 v7) := by
  have r : (fun k => k = b) b := rfl
  unfold set8
  have h0 := (KeepS.refl (fun k => k = b) w).set (P := b) r 0 v0
  have h1 := h0.set (P := b) r 1 v1
  have h2 := h1.set (P := b) r 2 v2
  have h3 := h2.set (P := b) r 3 v3
  have h4 := h3.set (P := b) r 4 v4
  have h5 := h4.set (P := b) r 5 v5
  have h6 := h5.set (P := b) r 6 v6
  exact h6.set (P := b) r 7 v7
theorem eight_cells {w : World} {b : Nat} {T : TypeId} {u0 u1 u2 u3 u4 u5 u6 u7 : Value} (h : At w b T #[u0, u1, u2, u3, u4, u5, u6, u7]) :
    (w.cell? ⟨b, 0, none⟩ = some u0 ∧ w.cell? ⟨b, 1, none⟩ = some u1 ∧ w.cell? ⟨b, 2, none⟩ = some u2 ∧ w.cell? ⟨b, 3, none⟩ = some u3 ∧ w.cell? ⟨b, 4, none⟩ = some u4 ∧ w.cell? ⟨b, 5, none⟩ = some u5 ∧ w.cell? ⟨b, 6, none⟩ = some u6 ∧ w.cell? ⟨b, 7, none⟩ = some u7) ∧
    w.frozen? ⟨b, 0, none⟩ = false ∧ w.frozen? ⟨b, 1, none⟩ = false ∧ w.frozen? ⟨b, 2, none⟩ = false ∧ w.frozen? ⟨b, 3, none⟩ = false ∧ w.frozen? ⟨b, 4, none⟩ = false ∧ w.frozen? ⟨b, 5, none⟩ = false ∧ w.frozen? ⟨b, 6, none⟩ = false ∧ w.frozen? ⟨b, 7, none⟩ = false :=
  ⟨⟨h.cell 0, h.cell 1, h.cell 2, h.cell 3, h.cell 4, h.cell 5, h.cell 6, h.cell 7⟩, h.free 0, h.free 1, h.free 2, h.free 3, h.free 4, h.free 5, h.free 6, h.free 7⟩
theorem getF_mid {name : ByteArray} {x : V} {C : List (ByteArray × V)} : ∀ (A : List (ByteArray × V)), (∀ q ∈ A, (q.1.toList == name.toList) = false) → getF name (A ++ (name, x) :: C) = some x
  | [], _ => by rw [List.nil_append, getF]; simp
  | q :: A, h => by
    rw [List.cons_append, getF, h q (by simp)]
    exact getF_mid A (fun p hp => h p (by simp [hp]))
/-- What was set is got. -/
theorem getF_pset (name : ByteArray) (x : V) (f : List (ByteArray × V)) : getF name (psetF name x f) = some x := by
  unfold psetF
  split
  · rename_i i hi
    rw [List.findIdx?_eq_some_iff_getElem] at hi
    obtain ⟨h1, _, h3⟩ := hi
    refine getF_mid _ fun q hq => ?_
    obtain ⟨j, hj⟩ := List.getElem?_of_mem hq
    have hjl := (List.getElem?_eq_some_iff.1 hj).1
    rw [List.length_take] at hjl
    rw [List.getElem?_take_of_lt (by omega), List.getElem?_eq_getElem (by omega)] at hj
    injection hj with hj
    have := h3 j (by omega)
    rw [hj] at this
    simpa using this
  · rename_i hno
    rw [List.findIdx?_eq_none_iff] at hno
    split
    · exact getF_mid _ fun q hq => by simpa using hno q (List.mem_of_mem_take hq)
    · exact getF_mid _ fun q hq => by simpa using hno q (List.mem_of_mem_take hq)
theorem setCell_size (w : World) (a : Addr) (v : Value) : (w.setCell a v).heap.size = w.heap.size := by simp [World.setCell]
theorem get_end {w w9 wf : World} {a6 ec : Nat} {v : V} {cs : List Value} (HRp : RepIn (fun b => a6 ≤ b ∧ b < ec) 9 w9 v cs) (hK : KeepS (fun k => w.heap.size ≤ k ∧ (k < a6 ∨ ec ≤ k)) w9 wf) (hB : Below w.heap.size w w9) (h6 : w.heap.size ≤ a6) (hec : ec ≤ w9.heap.size) :
    Hid (RepIn (fun b => w.heap.size ≤ b ∧ b < wf.heap.size) 9 wf v cs) ∧ Below w.heap.size w wf := by
  have hs := hK.size
  exact ⟨hid ((HRp.agree hs fun b hb => hK.block b (by omega) (by omega)).mono fun b hb => ⟨by omega, by omega⟩), hK.below hB (fun k h => h.1)⟩
end Go.Proofs.YtflcibmjblioaaaGreatDoor
