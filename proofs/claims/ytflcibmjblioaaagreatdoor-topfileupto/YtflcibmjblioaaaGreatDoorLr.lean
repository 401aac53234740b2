/-
  Joined: Lk, Ll, Lr.
-/
import Derived.Test.YtflcibmjblioaaaGreatDoorVe4
import Derived.Test.YtflcibmjblioaaaGreatDoorKj
import Derived.Test.YtflcibmjblioaaaGreatDoorLj0
import Derived.Test.YtflcibmjblioaaaGreatDoorLm
import Derived.Test.YtflcibmjblioaaaGreatDoorPc

/-
  What was laid in a file stands in it, plainly: objects, a table, its last words.
-/
namespace Go.Proofs.YtflcibmjblioaaaGreatDoor
open Go.RowKit
set_option maxRecDepth 100000

theorem stop_line (t : List UInt8) : Stop (10 :: t) := .inr ⟨10, t, rfl, by decide⟩
theorem fault_parts {v : V} (h : faultV v = 0) : v.Shp ∧ v.cnt ≤ 300 ∧ v.dep ≤ 8 := by
  have hb : ¬ (300 < v.cnt ∨ 8 < v.dep) := fun q => by rw [fault_many q] at h; exact absurd h (by decide)
  refine ⟨?_, by omega, by omega⟩
  unfold faultV at h
  rw [if_neg hb] at h
  by_cases q : v.Shp
  · exact q
  · rw [if_neg q] at h; exact absurd h (by decide)
theorem pV_at {s : ByteArray} {a z : Nat} {v : V} (hs : s.size ≤ 60000) (ha : a ≤ s.size) (h : rdV s 8 a = (v, 0, z)) (hf : faultV v = 0) : pV s (a : Int) = (v, 0, z) := by
  unfold pV
  rw [Int.toNat_natCast, if_neg (by omega), h, if_neg (by simp), if_neg (by simp [hf])]
/-- A value's text at a place, an end of a line behind it. -/
theorem pV_line {v : V} {s : ByteArray} {pre ws suf : List UInt8} (hf : faultV v = 0) (he : s.data.toList = pre ++ (ws ++ (v.txt ++ 10 :: suf))) (hw : Blk ws) (hz : s.size ≤ 60000) (hn : v.k = 2 → refP s (pre ++ ws ++ v.txt).length = none) : pV s (pre.length : Int) = (v, 0, (pre ++ ws ++ v.txt).length) := by
  obtain ⟨hS, hc, hd⟩ := fault_parts hf
  obtain ⟨c, t, ht, hc0⟩ := txt_head ((shp_eq v).1 hS).1
  obtain ⟨c1, c2, _⟩ := opB_out hc0
  have hsk : skipP s pre.length = pre.length + ws.length := skipP_at he hw (by rw [ht]; exact skipL_stop c2 c1)
  have hl := congrArg List.length he
  simp only [List.length_append] at hl
  have hzz := szL s
  have hdr : s.data.toList.drop (pre.length + ws.length) = v.txt ++ 10 :: suf := by
    rw [he, ← List.append_assoc, ← List.length_append, List.drop_left]
  have e3 : (pre ++ ws ++ v.txt).length = pre.length + ws.length + v.txt.length := by simp only [List.length_append]
  rw [e3] at hn ⊢
  exact pV_at hz (by omega) (rdV_back 8 v hS hd hc s pre.length _ _ hsk hdr (stop_line _) hn) hf
theorem noref_line {s : ByteArray} {e : Nat} {c : UInt8} {t : List UInt8} (h : s.data.toList.drop e = 10 :: c :: t) (h1 : c ≠ 37) (h2 : isBl c = false) (h3 : c ≠ 48) : refP s e = none := by
  have d : s.data.toList.drop (e + 1) = c :: t := drop_succ_of (n := 1) (a := [10]) h rfl
  have hs : skipP s e = e + 1 := by
    unfold skipP
    have := skipL_bl [10] (c :: t) (by decide)
    rw [skipL_stop h2 h1] at this
    rw [h]
    show e + skipL ([10] ++ c :: t) false = e + 1
    rw [this]; rfl
  unfold refP
  rw [hs, if_neg (fun (q : wordP s (e + 1) = w0) => h3 (word_first d q))]
def obWd : List UInt8 := [111, 98, 106]
def endoW : List UInt8 := [101, 110, 100, 111, 98, 106]
/-- An object stands at a place. -/
def RdOb (s : ByteArray) (a : Nat) (o : Ob) : Prop := ∃ b1 b2 b3 z b4 : Nat, TokF s a (Lib.itoa o.n) b1 ∧ TokF s b1 [48] b2 ∧ TokF s b2 obWd b3 ∧ pV s (b3 : Int) = ((lvR o).1, 0, z) ∧ (o.st = false → TokF s z endoW b4) ∧
  (o.st = true → TokF s z streamW b4 ∧ ∃ (rest : ByteArray) (c : Nat), (s.extract b4 s.size).data.toList = 10 :: rest.data.toList ∧ TokF rest o.dt.size endsW c ∧ (rest.extract 0 o.dt.size) = o.dt)
theorem obF_parts {o : Ob} (h : obF o = 0) : (1 ≤ o.n ∧ o.n ≤ 60) ∧ (lvR o).2 = 0 ∧ faultV (lvR o).1 = 0 := by
  unfold obF at h
  by_cases h1 : 1 ≤ o.n ∧ o.n ≤ 60
  · rw [if_pos h1] at h
    by_cases h2 : (lvR o).2 ≠ 0
    · rw [if_pos h2] at h; exact absurd h h2
    · rw [if_neg h2] at h; exact ⟨h1, by simpa using h2, h⟩
  · rw [if_neg h1] at h; exact absurd h (by decide)
theorem lv_stream {o : Ob} (h : (lvR o).2 = 0) (hs : o.st = true) : (lvR o).1 = ⟨6, o.v.n, o.v.s, o.v.l, psetF lenN (V0 2 (o.dt.size * 1000) eB) o.v.f⟩ ∧ o.v.k = 6 ∧ o.dt.size ≤ 20000 := by
  unfold lvR at h ⊢
  rw [hs] at h ⊢
  rw [if_neg (by simp)] at h ⊢
  by_cases h1 : o.v.k ≠ 6
  · rw [if_pos h1] at h; exact absurd (show (8 : Int) = 0 from h) (by decide)
  · rw [if_neg h1] at h ⊢
    by_cases h2 : 20000 < o.dt.size
    · rw [if_pos h2] at h; exact absurd (show (2 : Int) = 0 from h) (by decide)
    · rw [if_neg h2]
      have h1 : o.v.k = 6 := by simpa using h1
      rw [h1]
      exact ⟨rfl, rfl, by omega⟩
theorem lv_plain {o : Ob} (h : (lvR o).2 = 0) (hs : o.st = false) : (lvR o).1 = o.v ∧ o.dt = eB := by
  unfold lvR at h ⊢
  rw [if_pos hs] at h ⊢
  by_cases h1 : o.dt.size ≠ 0
  · rw [if_pos h1] at h; exact absurd (show (3 : Int) = 0 from h) (by decide)
  · rw [if_neg h1]; exact ⟨rfl, size0 (by simpa using h1)⟩
theorem ob_rd {s : ByteArray} {o : Ob} {pre suf : List UInt8} (he : s.data.toList = pre ++ (obT o ++ suf)) (hs : s.size ≤ 60000) (ho : obF o = 0) : RdOb s pre.length o := by
  obtain ⟨hn, h2, hf⟩ := obF_parts ho
  obtain ⟨nn, hnn⟩ : ∃ nn : Nat, o.n = nn := ⟨o.n.toNat, by omega⟩
  have hI : Lib.itoa o.n = Lib.decDigits nn := by rw [hnn]; unfold Lib.itoa; rw [if_neg (by omega), Int.toNat_natCast]
  unfold RdOb
  have eT : obT o = Lib.decDigits nn ++ ([32] ++ ([48] ++ ([32] ++ (obWd ++ ([10] ++ ((lvR o).1.txt ++ 10 :: ((if o.st then streamW ++ 10 :: (o.dt.data.toList ++ 10 :: (endsW ++ [10])) else []) ++ endW))))))) := by
    unfold obT
    rw [hI]
    simp [objW, obWd]
  rw [hI]
  rw [eT] at he
  generalize hTT : (lvR o).1.txt = T at he
  obtain ⟨X, hX⟩ : ∃ X, (if o.st then streamW ++ 10 :: (o.dt.data.toList ++ 10 :: (endsW ++ [10])) else []) = X := ⟨_, rfl⟩
  rw [hX] at he
  have h1 : s.data.toList = pre ++ ([] ++ (Lib.decDigits nn ++ ([32] ++ ([48] ++ ([32] ++ (obWd ++ ([10] ++ (T ++ 10 :: (X ++ (endW ++ suf)))))))))) := by rw [he]; simp only [List.append_assoc, List.nil_append, List.cons_append]
  have t1 : TokF s pre.length (Lib.decDigits nn) (pre ++ Lib.decDigits nn).length := tokF h1 (by intro c hc; cases hc) (digits_wd (dec_all _)) (dec_ne _) (by rfl) rfl (by simp only [List.length_append, List.length_nil, Nat.add_zero])
  have h2' : s.data.toList = (pre ++ Lib.decDigits nn) ++ ([32] ++ ([48] ++ ([32] ++ (obWd ++ ([10] ++ (T ++ 10 :: (X ++ (endW ++ suf)))))))) := by rw [h1]; simp only [List.append_assoc, List.nil_append]
  have t2 : TokF s (pre ++ Lib.decDigits nn).length [48] (pre ++ Lib.decDigits nn ++ [32] ++ [48]).length := tokF h2' (by decide) (by decide) (by decide) (by rfl) rfl (by simp only [List.length_append])
  have h3 : s.data.toList = (pre ++ Lib.decDigits nn ++ [32] ++ [48]) ++ ([32] ++ (obWd ++ ([10] ++ (T ++ 10 :: (X ++ (endW ++ suf)))))) := by rw [h1]; simp only [List.append_assoc, List.nil_append]
  have t3 : TokF s (pre ++ Lib.decDigits nn ++ [32] ++ [48]).length obWd (pre ++ Lib.decDigits nn ++ [32] ++ [48] ++ [32] ++ obWd).length := tokF h3 (by decide) (by decide) (by decide) (by rfl) rfl (by simp only [List.length_append])
  generalize hP : pre ++ Lib.decDigits nn ++ [32] ++ [48] ++ [32] ++ obWd = P at t3
  have h4 : s.data.toList = P ++ ([10] ++ (T ++ 10 :: (X ++ (endW ++ suf)))) := by rw [h1, ← hP]; simp only [List.append_assoc, List.nil_append]
  have hdz : s.data.toList.drop (P ++ [10] ++ T).length = 10 :: (X ++ (endW ++ suf)) := by
    rw [show s.data.toList = (P ++ [10] ++ T) ++ 10 :: (X ++ (endW ++ suf)) by rw [h4]; simp only [List.append_assoc], List.drop_left]
  have h5 : s.data.toList = (P ++ [10] ++ T) ++ ([10] ++ (X ++ (endW ++ suf))) := by rw [h4]; simp only [List.append_assoc, List.cons_append, List.nil_append]
  have hpv : pV s (P.length : Int) = ((lvR o).1, 0, (P ++ [10] ++ T).length) := by
    rw [← hTT] at h4 hdz ⊢
    refine pV_line hf h4 (by unfold Blk; decide) hs (fun hk => ?_)
    cases hst : o.st with
    | false =>
      rw [hst] at hX
      rw [← hX] at hdz
      exact noref_line (c := 101) (t := [110, 100, 111, 98, 106, 10] ++ suf) (by rw [hdz]; simp [endW]) (by decide) (by decide) (by decide)
    | true =>
      have := (lv_stream h2 hst).1
      rw [this] at hk
      exact absurd (show (6 : Int) = 2 from hk) (by decide)
  cases hst : o.st with
  | false =>
    rw [hst] at hX
    rw [← hX] at h5
    have t4 : TokF s (P ++ [10] ++ T).length endoW (P ++ [10] ++ T ++ [10] ++ endoW).length := tokF (ws := [10]) (suf := 10 :: suf) (by rw [h5]; simp [endW, endoW]) (by decide) (by decide) (by decide) (by rfl) rfl (by simp only [List.length_append])
    exact ⟨_, _, _, _, _, t1, t2, t3, hpv, fun _ => t4, fun q => by cases q⟩
  | true =>
    rw [hst, if_pos rfl] at hX
    rw [← hX] at h5
    obtain ⟨R, hR⟩ : ∃ R : ByteArray, R.data.toList = o.dt.data.toList ++ ([10] ++ (endsW ++ (10 :: (endW ++ suf)))) := ⟨⟨(o.dt.data.toList ++ ([10] ++ (endsW ++ (10 :: (endW ++ suf))))).toArray⟩, by simp⟩
    have h6 : s.data.toList = (P ++ [10] ++ T ++ [10] ++ streamW) ++ (10 :: R.data.toList) := by rw [h5, hR]; simp only [List.append_assoc, List.cons_append, List.nil_append]
    have t4 : TokF s (P ++ [10] ++ T).length streamW (P ++ [10] ++ T ++ [10] ++ streamW).length := tokF (ws := [10]) (suf := 10 :: R.data.toList) (by rw [h6]; simp only [List.append_assoc]) (by decide) (by decide) (by decide) (by rfl) rfl (by simp only [List.length_append])
    have t5 : TokF R o.dt.size endsW (o.dt.data.toList ++ [10] ++ endsW).length := tokF hR (by decide) (by decide) (by decide) (by rfl) (szL _) (by simp only [List.length_append])
    refine ⟨_, _, _, _, _, t1, t2, t3, hpv, (fun q => by cases q), fun _ => ⟨t4, R, _, ?_, t5, ?_⟩⟩
    · rw [exL, h6, List.drop_left]
    · apply ba_ext
      rw [exT, hR, szL o.dt, List.take_left]
/-- A table stands in a file. -/
theorem tab_rd {s : ByteArray} {sp : List (Nat × List Nat)} {v : V} {a : Nat} {pre suf : List UInt8} (he : s.data.toList = pre ++ (tabT sp v.txt a ++ suf)) (hs : s.size ≤ 60000) (hsp : ∀ y ∈ sp, y.1 < 100 ∧ y.2.length < 100 ∧ ∀ p ∈ y.2, p < 100000) (hf : faultV v = 0) (hk : v.k = 6) : RdTab s ⟨pre.length, sp, v⟩ := by
  have hl := congrArg List.length he
  simp only [List.length_append] at hl
  have hzz := szL s
  have h1 : s.data.toList = pre ++ (xrefW ++ ([10] ++ (spsT sp ++ (trailW ++ ([10] ++ (v.txt ++ 10 :: (endT a ++ suf))))))) := by
    rw [he]; unfold tabT; simp only [List.append_assoc, List.cons_append, List.nil_append]
  have hw := wordP_at h1 (by decide) (by rfl)
  have h2 : s.data.toList = (pre ++ xrefW) ++ ([10] ++ (spsT sp ++ (trailW ++ ([10] ++ (v.txt ++ 10 :: (endT a ++ suf)))))) := by rw [h1]; simp only [List.append_assoc]
  obtain ⟨p', w', r1, r2, r3⟩ := sps_rd s sp _ _ _ h2 (by unfold Blk; decide)
  have t1 : TokF s p'.length trailW (p' ++ w' ++ trailW).length := tokF r2 r3 (by decide) (by decide) (by rfl) rfl (by simp only [List.length_append])
  have h3 : s.data.toList = (p' ++ w' ++ trailW) ++ ([10] ++ (v.txt ++ 10 :: (endT a ++ suf))) := by rw [r2]; simp only [List.append_assoc]
  have hpv := pV_line hf h3 (by unfold Blk; decide) hs (fun q => by rw [hk] at q; exact absurd q (by decide))
  have hc := (fault_parts hf).2.1
  exact ⟨hw, (by omega : pre.length ≤ s.size), hsp, hk, (by omega : v.cnt ≤ 1048576), _, _, _, (by rw [List.length_append] at r1; exact r1 : RdSps s (pre.length + 4) sp p'.length), t1, hpv⟩
/-- Where the last table stands is told at the end. -/
theorem start_rd {s : ByteArray} {X : List UInt8} {a : Nat} (he : s.data.toList = X ++ endT a) : Lib.lastIndex s.data.toList startW = (X.length : Int) ∧ ∃ b, TokF s (X.length + 9) (Lib.decDigits a) b := by
  refine ⟨by rw [he]; exact last_start X a, ?_⟩
  have h1 : s.data.toList = (X ++ startW) ++ ([10] ++ (Lib.decDigits a ++ (10 :: (eofW ++ [10])))) := by rw [he]; unfold endT; simp only [List.append_assoc, List.cons_append, List.nil_append]
  have t := tokF h1 (by decide) (digits_wd (dec_all a)) (dec_ne a) (by rfl) rfl rfl
  rw [List.length_append] at t
  exact ⟨_, t⟩
end Go.Proofs.YtflcibmjblioaaaGreatDoor

/-
  Where laid objects stand, and what a laid table tells, plainly.
-/
namespace Go.Proofs.YtflcibmjblioaaaGreatDoor
open Go.RowKit
set_option maxRecDepth 100000

/-- Where objects stand that are laid one behind the other. -/
def whZ (m : Int → Option Int) (k : Nat) : List Ob → (Int → Option Int)
  | [] => m
  | o :: L => whZ (putZ m o.n (k : Int)) (k + (obT o).length) L
theorem whZ_snoc : ∀ (L : List Ob) (m : Int → Option Int) (k : Nat) (o : Ob), whZ m k (L ++ [o]) = putZ (whZ m k L) o.n ((k + (L.flatMap obT).length : Nat) : Int)
  | [], m, k, o => by simp [whZ]
  | q :: L, m, k, o => by rw [List.cons_append, whZ, whZ_snoc L, whZ, List.flatMap_cons, List.length_append, Nat.add_assoc]
theorem whZ_other : ∀ (L : List Ob) (m : Int → Option Int) (k : Nat) (x : Int), (∀ o ∈ L, o.n ≠ x) → whZ m k L x = m x
  | [], _, _, _, _ => rfl
  | o :: L, m, k, x, h => by
    rw [whZ, whZ_other L _ _ x (fun q hq => h q (by simp [hq]))]
    unfold putZ
    rw [if_neg (fun e => h o (by simp) e.symm)]
theorem whZ_at : ∀ (L1 : List Ob) (o : Ob) (L2 : List Ob) (m : Int → Option Int) (k : Nat), (∀ q ∈ L2, q.n ≠ o.n) → whZ m k (L1 ++ o :: L2) o.n = some ((k + (L1.flatMap obT).length : Nat) : Int)
  | [], o, L2, m, k, h => by
    rw [List.nil_append, whZ, whZ_other L2 _ _ _ h]
    unfold putZ
    rw [if_pos rfl]; simp
  | q :: L1, o, L2, m, k, h => by rw [List.cons_append, whZ, whZ_at L1 o L2 _ _ h, List.flatMap_cons, List.length_append, Nat.add_assoc]
theorem split_ob {L : List Ob} {o : Ob} (h : o ∈ L) (hn : (L.map (·.n)).Nodup) : ∃ L1 L2, L = L1 ++ o :: L2 ∧ (∀ q ∈ L1, q.n ≠ o.n) ∧ ∀ q ∈ L2, q.n ≠ o.n := by
  obtain ⟨L1, L2, rfl⟩ := List.append_of_mem h
  rw [List.map_append, List.map_cons, List.nodup_append] at hn
  obtain ⟨_, h2, h3⟩ := hn
  rw [List.nodup_cons] at h2
  exact ⟨L1, L2, rfl, fun q hq e => h3 q.n (List.mem_map_of_mem hq) o.n (by simp) e, fun q hq e => h2.1 (e ▸ List.mem_map_of_mem hq)⟩
/-- What pairs tell. -/
def tellP (m : Int → Option Int) : List (Nat × Nat) → (Int → Option Int)
  | [] => m
  | q :: L => tellP (tellZ m (q.1 : Int) q.2) L
theorem tellP_app : ∀ (L M : List (Nat × Nat)) (m : Int → Option Int), tellP m (L ++ M) = tellP (tellP m L) M
  | [], _, _ => rfl
  | q :: L, M, m => by rw [List.cons_append, tellP, tellP_app L, tellP]
theorem tellL_P : ∀ (ps : List Nat) (m : Int → Option Int) (k j : Nat), tellL m ((k + j : Nat) : Int) ps = tellP m ((ps.zipIdx j).map fun y => (k + y.2, y.1))
  | [], _, _, _ => rfl
  | p :: ps, m, k, j => by
    have ih := tellL_P ps (tellZ m ((k + j : Nat) : Int) p) k (j + 1)
    rw [List.zipIdx_cons, List.map_cons, tellP, tellL, ← ih]
    congr 1
theorem tellS_P : ∀ (sp : List (Nat × List Nat)) (m : Int → Option Int), tellS m sp = tellP m (told sp)
  | [], _ => rfl
  | x :: sp, m => by
    have e : told (x :: sp) = (x.2.zipIdx.map fun y => (x.1 + y.2, y.1)) ++ told sp := by unfold told; rw [List.flatMap_cons]
    have q := tellL_P x.2 m x.1 0
    rw [Nat.add_zero] at q
    rw [tellS, tellS_P sp, e, tellP_app, q]
theorem tellZ_kept {m : Int → Option Int} {k x c : Int} {p : Nat} (h : m x = some c) : tellZ m k p x = some c := by
  unfold tellZ
  split
  · rename_i h1
    unfold putZ
    split
    · rename_i e
      subst e
      rw [h1.1] at h; cases h
    · exact h
  · exact h
theorem tellZ_not {m : Int → Option Int} {k x : Int} {p : Nat} (h : m x = none) (hne : k ≠ x) : tellZ m k p x = none := by
  unfold tellZ
  split
  · unfold putZ
    rw [if_neg (fun e => hne e.symm)]; exact h
  · exact h
theorem tellZ_new {m : Int → Option Int} {k : Int} {p : Nat} (h : m k = none) (hk : 1 ≤ k ∧ k ≤ 60) : tellZ m k p k = some (p : Int) := by
  unfold tellZ
  rw [if_pos ⟨h, hk⟩]
  unfold putZ
  rw [if_pos rfl]
theorem tellP_kept (g : Nat → Nat) : ∀ (ns : List Nat) (m : Int → Option Int) (x c : Int), m x = some c → tellP m (ns.map fun n => (n, g n)) x = some c
  | [], _, _, _, h => h
  | n :: ns, m, x, c, h => by rw [List.map_cons, tellP]; exact tellP_kept g ns _ x c (tellZ_kept h)
theorem tellP_not (g : Nat → Nat) : ∀ (ns : List Nat) (m : Int → Option Int) (x : Int), m x = none → (∀ n ∈ ns, (n : Int) ≠ x) → tellP m (ns.map fun n => (n, g n)) x = none
  | [], _, _, h, _ => h
  | n :: ns, m, x, h, hn => by rw [List.map_cons, tellP]; exact tellP_not g ns _ x (tellZ_not h (hn n (by simp))) (fun q hq => hn q (by simp [hq]))
theorem tellP_new (g : Nat → Nat) : ∀ (ns : List Nat) (m : Int → Option Int) (k : Nat), m (k : Int) = none → k ∈ ns → 1 ≤ k ∧ k ≤ 60 → tellP m (ns.map fun n => (n, g n)) (k : Int) = some (g k : Int)
  | [], _, _, _, h, _ => by cases h
  | n :: ns, m, k, h, hm, hk => by
    rw [List.map_cons, tellP]
    by_cases e : n = k
    · subst e
      exact tellP_kept g ns _ _ _ (tellZ_new h (by omega))
    · rcases List.mem_cons.1 hm with e' | hm
      · exact absurd e'.symm e
      · exact tellP_new g ns _ k (tellZ_not h (by omega)) hm hk
/-- Where an object stands. -/
def gOf (k : Nat) (L : List Ob) (n : Nat) : Nat := ((whZ (fun _ => none) k L (n : Int)).getD 0).toNat
/-- Objects are laid behind a text, and a table of them. -/
structure Laid (base : List UInt8) (L : List Ob) (v : V) (T : ByteArray) : Prop where
  ok : ∀ o ∈ L, obF o = 0
  nodup : (L.map (·.n)).Nodup
  few : L.length ≤ 60
  last : faultV v = 0
  size : T.size ≤ 60000
  text : ∃ ns : List Nat, ns.Nodup ∧ (∀ n : Nat, n ∈ ns ↔ ∃ o ∈ L, o.n = (n : Int)) ∧ T.data.toList = base ++ (L.flatMap obT ++ tabT (grpF (gOf base.length L) ns.length ns) v.txt (base.length + (L.flatMap obT).length))
theorem Laid.where_ {base : List UInt8} {L : List Ob} {v : V} {T : ByteArray} (h : Laid base L v T) {o : Ob} (ho : o ∈ L) : ∃ pre suf, T.data.toList = pre ++ (obT o ++ suf) ∧ gOf base.length L o.n.toNat = pre.length := by
  obtain ⟨ns, _, _, ht⟩ := h.text
  obtain ⟨L1, L2, e, _, h2⟩ := split_ob ho h.nodup
  have hn := (obF_parts (h.ok o ho)).1
  refine ⟨base ++ L1.flatMap obT, L2.flatMap obT ++ tabT (grpF (gOf base.length L) ns.length ns) v.txt (base.length + (L.flatMap obT).length), ?_, ?_⟩
  · rw [ht]
    generalize tabT (grpF (gOf base.length L) ns.length ns) v.txt (base.length + (L.flatMap obT).length) = Z
    rw [e, List.flatMap_append, List.flatMap_cons]
    simp only [List.append_assoc]
  · unfold gOf
    rw [show ((o.n.toNat : Nat) : Int) = o.n by omega, e, whZ_at L1 o L2 _ _ h2, List.length_append, Option.getD_some, Int.toNat_natCast]
theorem grp_len (g : Nat → Nat) : ∀ (f : Nat) (l : List Nat), (grpF g f l).length ≤ f
  | 0, _ => by simp [grpF]
  | f + 1, [] => by simp [grpF]
  | f + 1, a :: r => by
    have := grp_len g f (r.drop (runL a r))
    rw [grpF, List.length_cons]; omega
theorem ns_len {L : List Ob} {ns : List Nat} (h1 : ns.Nodup) (h2 : ∀ n : Nat, n ∈ ns ↔ ∃ o ∈ L, o.n = (n : Int)) (h3 : (L.map (·.n)).Nodup) (h4 : ∀ o ∈ L, 1 ≤ o.n ∧ o.n ≤ 60) : ns.length = L.length := by
  have hp : (ns.map fun n : Nat => (n : Int)).Perm (L.map (·.n)) := by
    refine (List.perm_ext_iff_of_nodup ?_ h3).2 fun x => ?_
    · refine List.Pairwise.map _ (fun a b hab e => hab (by omega)) h1
    · constructor
      · intro hx
        obtain ⟨n, hn, rfl⟩ := List.mem_map.1 hx
        obtain ⟨o, ho, e⟩ := (h2 n).1 hn
        exact List.mem_map.2 ⟨o, ho, e⟩
      · intro hx
        obtain ⟨o, ho, rfl⟩ := List.mem_map.1 hx
        have := h4 o ho
        exact List.mem_map.2 ⟨o.n.toNat, (h2 _).2 ⟨o, ho, by omega⟩, by omega⟩
  have := hp.length_eq
  simpa using this
/-- What is read of a laid file. -/
theorem Laid.read {base : List UInt8} {L : List Ob} {v : V} {T : ByteArray} (h : Laid base L v T) (hk : v.k = 6) : ∃ (sp : List (Nat × List Nat)) (a : Nat), base.length ≤ a ∧ a < T.size ∧ (∃ X, T.data.toList = base ++ (X ++ endT a)) ∧ sp.length ≤ 60 ∧
    (∀ (s : ByteArray) (suf : List UInt8), s.data.toList = T.data.toList ++ suf → s.size ≤ 60000 → RdTab s ⟨a, sp, v⟩ ∧ ∀ o ∈ L, RdOb s (gOf base.length L o.n.toNat) o) ∧
    ∀ m : Int → Option Int, (∀ x c, m x = some c → tellS m sp x = some c) ∧ (∀ x, m x = none → (∀ o ∈ L, o.n ≠ x) → tellS m sp x = none) ∧ (∀ o ∈ L, m o.n = none → tellS m sp o.n = some (gOf base.length L o.n.toNat : Int)) := by
  have hw := fun o ho => h.where_ (o := o) ho
  have hz := szL T
  obtain ⟨ns, h1, h2, ht⟩ := h.text
  have hno : ∀ o ∈ L, 1 ≤ o.n ∧ o.n ≤ 60 := fun o ho => (obF_parts (h.ok o ho)).1
  have hlen := ns_len h1 h2 h.nodup hno
  have hfew := h.few
  have hsm : ∀ n ∈ ns, n < 100 ∧ gOf base.length L n < 100000 := fun n hn => by
    obtain ⟨o, ho, e⟩ := (h2 n).1 hn
    have h60 := hno o ho
    obtain ⟨pre, suf, e1, e2⟩ := hw o ho
    rw [show o.n.toNat = n by omega] at e2
    have := congrArg List.length e1
    simp only [List.length_append] at this
    have := h.size
    omega
  have hl := congrArg List.length ht
  simp only [List.length_append] at hl
  have htp : 0 < (tabT (grpF (gOf base.length L) ns.length ns) v.txt (base.length + (L.flatMap obT).length)).length := by unfold tabT xrefW; simp
  refine ⟨grpF (gOf base.length L) ns.length ns, base.length + (L.flatMap obT).length, by omega, by omega, ?_, ?_, fun s suf he hs => ⟨?_, fun o ho => ?_⟩, fun m => ⟨fun x c hx => ?_, fun x hx hn => ?_, fun o ho hx => ?_⟩⟩
  · refine ⟨L.flatMap obT ++ (xrefW ++ 10 :: (spsT (grpF (gOf base.length L) ns.length ns) ++ (trailW ++ 10 :: (v.txt ++ [10])))), ?_⟩
    rw [ht]; unfold tabT; simp only [List.append_assoc, List.cons_append, List.nil_append]
  · have := grp_len (gOf base.length L) ns.length ns
    omega
  · have := tab_rd (s := s) (pre := base ++ L.flatMap obT) (suf := suf) (v := v) (sp := grpF (gOf base.length L) ns.length ns) (a := base.length + (L.flatMap obT).length) (by rw [he, ht]; simp only [List.append_assoc]) hs (grp_small _ _ _ hsm (by omega)) h.last hk
    rw [List.length_append] at this
    exact this
  · obtain ⟨pre, suf', e1, e2⟩ := hw o ho
    rw [e2]
    exact ob_rd (suf := suf' ++ suf) (by rw [he, e1]; simp only [List.append_assoc]) hs (h.ok o ho)
  · rw [tellS_P, told_grp _ _ _ (Nat.le_refl _)]
    exact tellP_kept _ _ _ _ _ hx
  · rw [tellS_P, told_grp _ _ _ (Nat.le_refl _)]
    refine tellP_not _ _ _ _ hx fun n hn' e => ?_
    obtain ⟨o, ho, e'⟩ := (h2 n).1 hn'
    exact hn o ho (e'.trans e)
  · have h60 := hno o ho
    rw [tellS_P, told_grp _ _ _ (Nat.le_refl _)]
    have e : ((o.n.toNat : Nat) : Int) = o.n := by omega
    have := tellP_new (gOf base.length L) ns m o.n.toNat (by rw [e]; exact hx) ((h2 _).2 ⟨o, ho, by omega⟩) (by omega)
    rw [e] at this
    exact this
end Go.Proofs.YtflcibmjblioaaaGreatDoor

/-
  The numbers of a map, as a row; a table's text is short.
-/
namespace Go.Proofs.YtflcibmjblioaaaGreatDoor
open Go.RowKit Go.Lib Go.Maps
set_option maxRecDepth 1000000

theorem MapZ.look1 {w : World} {b n : Nat} {m : Int → Option Int} (h : MapZ w b n m) {x : Int} (hx : -1000000000000 ≤ x ∧ x ≤ 1000000000000) : (Instr.lookup 59 (.map (some b)) (.int .i64 x) false).run Tryz.prog w = .ok (.int .i64 ((m x).getD 0)) w := by
  obtain ⟨D, h1, h2, h3⟩ := h
  obtain ⟨i, hi, z0, z1, z2⟩ := info_parts infoZ
  obtain ⟨v, ps, hr, hv⟩ := h1.lookup lawZ Tryz.underlying59 (z := .int .i64 0) (by simp [zeroValue, typeInfo, hi, z0]) (elem_z (x := 0) (by omega)) (key_z hx)
  rw [hr]
  cases e : m x with
  | none =>
    obtain ⟨q1, q2⟩ := (h3 x).1 e
    rw [q2] at hv
    rw [elem_val hv]
    rfl
  | some c =>
    obtain ⟨q1, q2⟩ := (h3 x).2 c e
    rw [q2] at hv
    rw [elem_val hv]
    rfl
theorem MapZ.there {w : World} {b n : Nat} {m : Int → Option Int} {D : DataW Unit} (_h : w.ownsMap Tryz.prog 3 (plainElem Tryz.prog 3) b n D) (h3 : ∀ x, (m x = none → has D (.int .i64 x) = false ∧ ∀ zd, D.atKey (.int .i64 x) zd = zd) ∧ ∀ c, m x = some c → has D (.int .i64 x) = true ∧ ∀ zd, D.atKey (.int .i64 x) zd = .lit (.int .i64 c)) (x : Int) : There D x ↔ ∃ c, m x = some c ∧ 0 ≤ c := by
  constructor
  · rintro ⟨c, hc, h0⟩
    cases e : m x with
    | none =>
      have q := ((h3 x).1 e).2
      have a := (q (.lit (.int .i64 0))).symm.trans (hc _)
      have b := (q (.lit (.int .i64 1))).symm.trans (hc _)
      have a := lit_eq a
      have b := lit_eq b
      omega
    | some c' =>
      have q := ((h3 x).2 c' e).2 (.lit (.int .i64 0))
      have := lit_eq (q.symm.trans (hc _))
      exact ⟨c', rfl, by omega⟩
  · rintro ⟨c, e, h0⟩
    exact ⟨c, ((h3 x).2 c e).2, h0⟩
/-- The numbers that are there. -/
theorem numbersZ (mb n : Nat) (m : Int → Option Int) (w : World) (hM : MapZ w mb n m) (hn : n ≤ 100000) :
    Calls Tryz.prog 23 #[.map (some mb)] w fun e w' => ∃ (t : Value) (zs : List Int), e = .returned t ∧ OwnZ w' (w.heap.size + 1) t zs ∧ zs.Nodup ∧ (∀ x, x ∈ zs ↔ ∃ c, m x = some c ∧ 0 ≤ c) ∧ Below w.heap.size w w' := by
  obtain ⟨D, h1, h2, h3⟩ := hM
  refine (numbers_says mb n D w h1 hn).mono ?_
  rintro e w' ⟨⟨t, zs, rfl, ho, hnd, hmem⟩, hb⟩
  refine ⟨t, _, rfl, ho, ?_, fun x => ?_, hb⟩
  · exact (List.mergeSort_perm zs _).nodup_iff.2 hnd
  · rw [(List.mergeSort_perm zs _).mem_iff, hmem x]
    exact MapZ.there h1 h3 x
/-- A row of numbers. -/
structure RowN (w : World) (g : Nat) (ns : List Nat) : Prop where
  row : ∃ cur, w.heap[g]? = some (.cells cur 3 (0, 0)) ∧ ∀ (j k : Nat), ns[j]? = some k → cur[j]? = some (.int .i64 (k : Int))
theorem RowN.lt {w : World} {g : Nat} {ns : List Nat} (h : RowN w g ns) : g < w.heap.size := by
  obtain ⟨cur, h1, _⟩ := h.row
  exact (Array.getElem?_eq_some_iff.1 h1).1
theorem RowN.cell {w : World} {g : Nat} {ns : List Nat} (h : RowN w g ns) {j k : Nat} (hj : ns[j]? = some k) : w.cell? ⟨g, j, none⟩ = some (.int .i64 (k : Int)) := by
  obtain ⟨cur, h1, h2⟩ := h.row
  rw [cell_of_row w g j cur _ (0, 0) h1]
  exact h2 j k hj
theorem RowN.others {w w' : World} {g P : Nat} {ns : List Nat} (h : RowN w g ns) (hk : KeepO P w w') (hg : g ≠ P) : RowN w' g ns := by
  obtain ⟨cur, h1, h2⟩ := h.row
  exact ⟨cur, hk.others g _ h1 (by simpa using hg) (fun c fz e => by cases e), h2⟩
theorem RowN.later {w w' : World} {g : Nat} {ns : List Nat} (h : RowN w g ns) (hb : Below w.heap.size w w') : RowN w' g ns := by
  have hl := h.lt
  obtain ⟨cur, h1, h2⟩ := h.row
  exact ⟨cur, (hb.block g hl).trans h1, h2⟩
theorem rowN_of {w : World} {B : Nat} {t : Value} {zs : List Int} {ns : List Nat} (h : OwnZ w B t zs) (he : zs = ns.map fun k : Nat => (k : Int)) (hne : ns ≠ []) : ∃ g cap, t = .slice (some ⟨g, 0, none⟩) ns.length cap ∧ ns.length ≤ cap ∧ cap ≤ maxLen ∧ B ≤ g ∧ RowN w g ns := by
  subst he
  rcases h.2 with ⟨_, h0⟩ | ⟨g, cap, cur, rfl, h1, h2, h3, h4, h5, h6⟩
  · rw [List.length_map] at h0
    exact absurd (List.eq_nil_of_length_eq_zero h0) hne
  · rw [List.length_map] at *
    refine ⟨g, cap, rfl, h3, h4, h1, cur, h2, fun j k hj => ?_⟩
    have hl := (List.getElem?_eq_some_iff.1 hj).1
    have : (cur.toList.take (ns.length * 1))[j]? = some (.int .i64 (k : Int)) := by
      rw [h6]
      simp [hj]
    rw [List.getElem?_take_of_lt (by omega)] at this
    simpa using this
theorem dec_len7 {n : Nat} (h : n < 10000000) : (Lib.decDigits n).length ≤ 7 := by
  rw [Lib.decDigits]
  split
  · simp
  rw [Lib.decDigits]
  split
  · simp
  have := dec_len5 (n := n / 10 / 10) (by omega)
  simp only [List.length_append, List.length_cons, List.length_nil]
  omega
theorem entT_len {p : Nat} (h : p < 10000000) : (entT p).length = 20 := by
  have := dec_len7 h
  unfold entT pad10
  simp only [List.length_append, List.length_replicate, List.length_cons, List.length_nil]
  omega
theorem ents_len : ∀ (ps : List Nat), (∀ p ∈ ps, p < 10000000) → (ps.flatMap entT).length = 20 * ps.length
  | [], _ => rfl
  | p :: ps, h => by
    rw [List.flatMap_cons, List.length_append, entT_len (h p (by simp)), ents_len ps (fun q hq => h q (by simp [hq])), List.length_cons]
    omega
theorem spT_len {x : Nat × List Nat} (h1 : x.1 < 100000) (h2 : x.2.length < 100000) (h3 : ∀ p ∈ x.2, p < 10000000) : (spT x).length ≤ 12 + 20 * x.2.length := by
  have a := dec_len5 h1
  have b := dec_len5 h2
  unfold spT
  simp only [List.length_append, List.length_cons, ents_len _ h3]
  omega
theorem grp_long (g : Nat → Nat) : ∀ (f : Nat) (l : List Nat), (∀ n ∈ l, n < 100 ∧ g n < 10000000) → l.length ≤ 99 → (spsT (grpF g f l)).length ≤ 32 * l.length
  | 0, _, _, _ => by simp [grpF, spsT]
  | f + 1, [], _, _ => by simp [grpF, spsT]
  | f + 1, a :: r, h, hl => by
    have ih := grp_long g f (r.drop (runL a r)) (fun n hn => h n (List.mem_cons_of_mem _ (List.mem_of_mem_drop hn))) (by rw [List.length_drop]; simp only [List.length_cons] at hl; omega)
    have hr := runL_le a r
    rw [List.length_drop] at ih
    have ha := h a (by simp)
    have hx := spT_len (x := (a, (a :: r.take (runL a r)).map g)) (by show a < 100000; omega) (by simp only [List.length_map, List.length_cons, List.length_take] at hl ⊢; omega) (fun p hp => by
      obtain ⟨n, hn, rfl⟩ := List.mem_map.1 hp
      refine (h n ?_).2
      rcases List.mem_cons.1 hn with rfl | hn
      · simp
      · exact List.mem_cons_of_mem _ (List.mem_of_mem_take hn))
    have e : spsT (grpF g (f + 1) (a :: r)) = spT (a, (a :: r.take (runL a r)).map g) ++ spsT (grpF g f (r.drop (runL a r))) := by unfold spsT; rw [grpF, List.flatMap_cons]
    rw [e, List.length_append]
    simp only [List.length_map, List.length_cons, List.length_take] at hx ⊢
    omega
end Go.Proofs.YtflcibmjblioaaaGreatDoor
