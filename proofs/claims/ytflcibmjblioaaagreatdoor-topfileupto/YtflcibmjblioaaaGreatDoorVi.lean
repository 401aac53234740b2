/-
  Joined: Yx, Vg, Vi.
-/
import Derived.Test.YtflcibmjblioaaaGreatDoorYw
import Derived.Test.YtflcibmjblioaaaGreatDoorYc
import Derived.Test.YtflcibmjblioaaaGreatDoorPa
import Derived.Test.YtflcibmjblioaaaGreatDoorVf

/-
  The program's reader: a value, whole.
-/
namespace Go.Proofs.YtflcibmjblioaaaGreatDoor
open Go.RowKit
set_option maxRecDepth 100000

set_option maxHeartbeats 4000000 in
theorem yvEnd (P : Nat) (s : ByteArray) (j d : Nat) (deep : Int) (v : V) (z : Nat) (w : World) (hR : RdAt w P s j) (hj : j ≤ s.size) (hs : s.size ≤ 100000) (hp : skipP s j = s.size) :
    Calls Tryz.prog 55 #[.pointer (some ⟨P, 0, none⟩), .int .i64 deep] w (Said P w s d (v, 5, z)) := by
  have hPl : P < w.heap.size := At.lt hR
  have hX := Boxed.new hR
  have hsk := fun (w : World) (h : RdAt w P s j) => ySkipEnd P s j w h hj hs hp
  go_enter Tryz.func55, Tryz.ntmps55
  go_wp2_with ((go_at_call 87; go_must (refine (hsk _ hX.mov.at_).mono ?_); rintro e wa ⟨rfl, hma⟩; (replace hX := hX.moved hma); obtain ⟨⟨bx0, bx1, bx2, bx3, bx4⟩, bf0, bf1, bf2, bf3, bf4⟩ := box5 hX.box))
  obtain ⟨hM5, hB5⟩ := hX.fill 0 0 ⟨#[]⟩
  generalize World.setCell _ _ _ = wf at hB5 hM5 ⊢
  obtain ⟨⟨cx0, cx1, cx2, cx3, cx4⟩, _⟩ := box5 hB5
  refine bodyPost_ret (v := .tuple #[.agg (vc 0 0 ⟨#[]⟩), .iface 50 (.int .i64 5)]) (by simp [results, Tryz.results55, go_sem, cx0, cx1, cx2, cx3, cx4]; try first | exact ⟨rfl, rfl⟩ | rfl) rfl ?_
  exact ⟨0, 0, ⟨#[]⟩, none, none, 0, 0, 0, 0, _, rfl, hM5, hid (fun h => absurd (show (5 : Int) = 0 from h) (by decide))⟩
set_option maxHeartbeats 4000000 in
theorem yvDeep (P : Nat) (s : ByteArray) (j d : Nat) (deep : Int) (v : V) (z : Nat) (w : World) (hR : RdAt w P s j) (hj : j ≤ s.size) (hs : s.size ≤ 100000) (hp : ¬ skipP s j = s.size) (hd : 8 < deep) :
    Calls Tryz.prog 55 #[.pointer (some ⟨P, 0, none⟩), .int .i64 deep] w (Said P w s d (v, 2, z)) := by
  have hPl : P < w.heap.size := At.lt hR
  have hX := Boxed.new hR
  have hsk := fun (w : World) (h : RdAt w P s j) => ySkipOk P s j w h hj hs hp
  go_enter Tryz.func55, Tryz.ntmps55
  go_wp2_with ((go_at_call 87; go_must (refine (hsk _ hX.mov.at_).mono ?_); rintro e wa ⟨rfl, hma⟩; (replace hX := hX.moved hma); obtain ⟨⟨bx0, bx1, bx2, bx3, bx4⟩, bf0, bf1, bf2, bf3, bf4⟩ := box5 hX.box))
  obtain ⟨hM5, hB5⟩ := hX.fill 0 0 ⟨#[]⟩
  generalize World.setCell _ _ _ = wf at hB5 hM5 ⊢
  obtain ⟨⟨cx0, cx1, cx2, cx3, cx4⟩, _⟩ := box5 hB5
  refine bodyPost_ret (v := .tuple #[.agg (vc 0 0 ⟨#[]⟩), .iface 50 (.int .i64 2)]) (by simp [results, Tryz.results55, go_sem, cx0, cx1, cx2, cx3, cx4]; try first | exact ⟨rfl, rfl⟩ | rfl) rfl ?_
  exact ⟨0, 0, ⟨#[]⟩, none, none, 0, 0, 0, 0, _, rfl, hM5, hid (fun h => absurd (show (2 : Int) = 0 from h) (by decide))⟩
theorem rdAt_get {s : ByteArray} {p : Nat} (hp : p < s.size) : s.data.toList[p]? = some s[p] := by rw [List.getElem?_eq_getElem (by simpa using hp)]; rfl
/-- A value, at whatever depth. -/
theorem yValue (m : Int) (P : Nat) (s : ByteArray) (hs : s.size ≤ 100000) : ∀ (n : Nat) (deep : Int), n ≤ 8 → deep = 9 - n → ∀ (w : World) (j : Nat), Env m P w → RdAt w P s j → j ≤ s.size → Calls Tryz.prog 55 #[.pointer (some ⟨P, 0, none⟩), .int .i64 deep] w (Said P w s (n + 1) (rdV s n j))
  | 0, deep, _, hd, w, j, _, hR, hj => by
    unfold rdV
    by_cases h : skipP s j = s.size
    · rw [if_pos h]; exact yvEnd P s j 1 deep _ _ w hR hj hs h
    · rw [if_neg h]; exact yvDeep P s j 1 deep _ _ w hR hj hs h (by omega)
  | n + 1, deep, hn, hd, w, j, hE, hR, hj => by
    unfold rdV
    by_cases h : skipP s j = s.size
    · rw [if_pos h]; exact yvEnd P s j _ deep _ _ w hR hj hs h
    · rw [if_neg h]
      have hpl : skipP s j < s.size := by have := (skipP_le hj).2; omega
      obtain ⟨p, hp⟩ : ∃ p, skipP s j = p := ⟨_, rfl⟩
      rw [hp] at hpl ⊢
      have hdd : 0 ≤ deep ∧ deep ≤ 8 := by omega
      have hg := rdAt_get hpl
      have hval := yValue m P s hs n (deep + 1) (by omega) (by omega)
      unfold rdAt
      by_cases h47 : s[p] = 47
      · rw [if_pos (by rw [hg, h47])]; exact yvName m P s j p (n + 1) deep w hE hR hj hs hdd hp hpl h47
      rw [if_neg (by rw [hg]; simpa using h47)]
      by_cases h40 : s[p] = 40
      · rw [if_pos (by rw [hg, h40])]; exact yvLit m P s j p (n + 1) deep w hE hR hj hs hdd hp hpl h47 h40
      rw [if_neg (by rw [hg]; simpa using h40)]
      by_cases h60 : s[p] = 60
      · rw [if_pos (by rw [hg, h60])]
        by_cases h6 : s.data.toList[p + 1]? = some 60
        · rw [if_pos h6]; exact yvDict m P s j p (n + 1) deep w hE hR hj hs hdd hp hpl h47 h40 h60 h6 _ hval
        · rw [if_neg h6]; exact yvHex m P s j p (n + 1) deep w hE hR hj hs hdd hp hpl h47 h40 h60 h6
      rw [if_neg (by rw [hg]; simpa using h60)]
      by_cases h91 : s[p] = 91
      · rw [if_pos (by rw [hg, h91])]; exact yvList m P s j p (n + 1) deep w hE hR hj hs hdd hp hpl h47 h40 h60 h91 _ hval
      rw [if_neg (by rw [hg]; simpa using h91)]
      cases hsn : isSg s[p]
      · rw [if_neg (by rw [hg]; simp [hsn])]; exact yvOther m P s j p (n + 1) deep w hE hR hj hs hdd hp hpl h47 h40 h60 h91 hsn
      · rw [if_pos (by rw [hg]; simp [hsn])]; exact yvSign m P s j p (n + 1) deep w hE hR hj hs hdd hp hpl h47 h40 h60 h91 hsn

/-- How many parts there are is no more than how many bytes were read. -/
def Fits (s : ByteArray) (f : Nat → Rd) : Prop := ∀ j, j ≤ s.size → (f j).2.1 = 0 → j + (f j).1.cnt ≤ (f j).2.2 ∧ (f j).2.2 ≤ s.size
theorem cntL_append (a b : List V) : cntL (a ++ b) = cntL a + cntL b := by
  induction a with
  | nil => simp [cntL]
  | cons x a ih => rw [List.cons_append, cntL, cntL, ih]; omega
theorem cntF_append (a b : List (ByteArray × V)) : cntF (a ++ b) = cntF a + cntF b := by
  induction a with
  | nil => simp [cntF]
  | cons x a ih => rw [List.cons_append, cntF, cntF, ih]; omega
theorem cntF_rset (name : ByteArray) (x : V) : ∀ (l : List (ByteArray × V)) (b : Bool), cntF (rsetF name x l b) ≤ cntF l + (if b then 0 else x.cnt)
  | [], b => by cases b <;> simp [rsetF, cntF, cntP]
  | q :: l, b => by
    have ih := cntF_rset name x l (b || leB name q.1)
    rw [rsetF, cntF_append, cntF_append, cntF_cons]
    have h2 : cntF (if q.1.toList == name.toList then [] else [q]) ≤ q.2.cnt := by
      split
      · simp [cntF]
      · rw [cntF_cons]; simp [cntF]
    generalize cntF (if q.1.toList == name.toList then [] else [q]) = y at h2 ⊢
    cases b <;> cases hl : leB name q.1 <;> simp [hl, cntF, cntP] at ih ⊢ <;> omega
theorem endsR_ge {s p : ByteArray} {k : Nat} (hk : k ≤ s.size) {y : Bool} {z : Nat} (h : endsR s p k = (0, y, z)) : k ≤ z ∧ (y = true → k + p.size ≤ z) := by
  have hl := skipP_le hk
  unfold endsR at h
  split at h
  · injection h with h1 _; exact absurd h1 (by decide)
  · split at h
    · injection h with _ h2; injection h2 with _ h3; exact ⟨by omega, fun _ => by omega⟩
    · injection h with _ h2; injection h2 with h4 h3; exact ⟨by omega, fun q => by rw [← h4] at q; cases q⟩
theorem rdL_fits {s : ByteArray} {f : Nat → Rd} (hf : Fits s f) : ∀ (n : Nat) (acc : List V) (j : Nat), j ≤ s.size → (rdL f s n acc j).2.1 = 0 → cntL (rdL f s n acc j).1 + j + 1 ≤ (rdL f s n acc j).2.2 + cntL acc ∧ (rdL f s n acc j).2.2 ≤ s.size
  | 0, acc, j, _, h => absurd (show (2 : Int) = 0 from h) (by decide)
  | n + 1, acc, j, hj, h => by
    obtain ⟨ex, ey, ez, hes⟩ : ∃ x y z, endsR s wEnd j = (x, y, z) := ⟨_, _, _, rfl⟩
    have hez := endsR_to hj rfl hes
    rw [rdL_step hes] at h ⊢
    by_cases hx : ex = 0
    · subst hx
      have hge := endsR_ge hj hes
      rw [if_neg (by simp)] at h ⊢
      cases ey
      · rw [if_neg (by simp)] at h ⊢
        by_cases he : (f ez).2.1 = 0
        · rw [if_neg (by simp [he])] at h ⊢
          by_cases hm : 300 < acc.length + 1
          · rw [if_pos hm] at h; exact absurd (show (2 : Int) = 0 from h) (by decide)
          · rw [if_neg hm] at h ⊢
            obtain ⟨q1, q2⟩ := hf ez hez he
            have ih := rdL_fits hf n (acc ++ [(f ez).1]) (f ez).2.2 q2 h
            rw [cntL_append] at ih
            have e1 : cntL [(f ez).1] = (f ez).1.cnt := by simp [cntL]
            rw [e1] at ih
            exact ⟨by have := ih.1; have := hge.1; omega, ih.2⟩
        · rw [if_pos he] at h; exact absurd h he
      · rw [if_pos rfl] at h ⊢
        have h1 := hge.2 rfl
        have h2 : wEnd.size = 1 := rfl
        simp only
        exact ⟨by omega, hez⟩
    · rw [if_pos hx] at h; exact absurd h hx
theorem rdFd_fits {s : ByteArray} {f : Nat → Rd} (hf : Fits s f) {k : Nat} (hk : k < s.size) (h : (rdFd f s k).2.1 = 0) : k + 1 + (rdFd f s k).1.2.cnt ≤ (rdFd f s k).2.2 ∧ (rdFd f s k).2.2 ≤ s.size := by
  have hl := yWordLe (s := s) (k := k + 1) (by omega)
  unfold rdFd at h ⊢
  split
  · rename_i h47
    rw [if_pos h47] at h
    cases hr : nameR (wordP s (k + 1)).data.toList with
    | none => rw [hr] at h; exact absurd (show (4 : Int) = 0 from h) (by decide)
    | some b =>
      rw [hr] at h
      simp only at h ⊢
      obtain ⟨q1, q2⟩ := hf _ hl h
      exact ⟨by omega, q2⟩
  · rename_i h47
    rw [if_neg h47] at h; exact absurd (show (4 : Int) = 0 from h) (by decide)
theorem rdD_fits {s : ByteArray} {f : Nat → Rd} (hf : Fits s f) : ∀ (n : Nat) (acc : List (ByteArray × V)) (j : Nat), j ≤ s.size → (rdD f s n acc j).2.1 = 0 → cntF (rdD f s n acc j).1 + j + 2 ≤ (rdD f s n acc j).2.2 + cntF acc ∧ (rdD f s n acc j).2.2 ≤ s.size
  | 0, acc, j, _, h => absurd (show (2 : Int) = 0 from h) (by decide)
  | n + 1, acc, j, hj, h => by
    obtain ⟨ex, ey, ez, hes⟩ : ∃ x y z, endsR s wEnd2 j = (x, y, z) := ⟨_, _, _, rfl⟩
    have hez := endsR_to2 hj hes
    rw [rdD_step hes] at h ⊢
    by_cases hx : ex = 0
    · subst hx
      have hge := endsR_ge hj hes
      rw [if_neg (by simp)] at h ⊢
      cases ey
      · rw [if_neg (by simp)] at h ⊢
        have hlt := endsR_lt hj hes
        by_cases he : (rdFd f s ez).2.1 = 0
        · rw [if_neg (by simp [he])] at h ⊢
          by_cases hg : (getF (rdFd f s ez).1.1 acc).isSome = true
          · rw [if_pos hg] at h; exact absurd (show (3 : Int) = 0 from h) (by decide)
          · rw [if_neg hg] at h ⊢
            by_cases hm : 300 < acc.length + 1
            · rw [if_pos hm] at h; exact absurd (show (2 : Int) = 0 from h) (by decide)
            · rw [if_neg hm] at h ⊢
              obtain ⟨q1, q2⟩ := rdFd_fits hf hlt he
              have ih := rdD_fits hf n (rsetF (rdFd f s ez).1.1 (rdFd f s ez).1.2 acc false) (rdFd f s ez).2.2 q2 h
              have hc := cntF_rset (rdFd f s ez).1.1 (rdFd f s ez).1.2 acc false
              simp only [Bool.false_eq_true, if_false] at hc
              exact ⟨by have := ih.1; have := hge.1; omega, ih.2⟩
        · rw [if_pos he] at h; exact absurd h he
      · rw [if_pos rfl] at h ⊢
        have h1 := hge.2 rfl
        have h2 : wEnd2.size = 2 := rfl
        simp only
        exact ⟨by omega, hez⟩
    · rw [if_pos hx] at h; exact absurd h hx
theorem litF_fits : ∀ (n : Nat) (l : List UInt8) (deep : Nat) (b : List UInt8) (k : Nat), (litF n l deep b k).1 = 0 → k < (litF n l deep b k).2.2 ∧ (litF n l deep b k).2.2 ≤ k + l.length
  | 0, _, _, _, _, h => absurd (show (5 : Int) = 0 from h) (by decide)
  | _ + 1, [], _, _, _, h => absurd (show (5 : Int) = 0 from h) (by decide)
  | n + 1, c :: r, deep, b, k, h => by
    unfold litF at h ⊢
    by_cases h41 : (c == 41) = true
    · rw [if_pos h41] at h ⊢
      by_cases hd : deep = 1
      · rw [if_pos hd]; simp
      · rw [if_neg hd] at h ⊢
        have := litF_fits n r _ _ _ h
        simp only [List.length_cons]; omega
    · rw [if_neg h41] at h ⊢
      by_cases h40 : (c == 40) = true
      · rw [if_pos h40] at h ⊢
        have := litF_fits n r _ _ _ h
        simp only [List.length_cons]; omega
      · rw [if_neg h40] at h ⊢
        by_cases h92 : (c == 92) = true
        · rw [if_pos h92] at h ⊢
          cases he : escL r with
          | none => rw [he] at h; exact absurd (show (5 : Int) = 0 from h) (by decide)
          | some q =>
            obtain ⟨x, m⟩ := q
            rw [he] at h
            simp only at h ⊢
            have := litF_fits n (r.drop m) _ _ _ h
            have := escL_le he
            simp only [List.length_drop, List.length_cons] at *; omega
        · rw [if_neg h92] at h ⊢
          have := litF_fits n r _ _ _ h
          simp only [List.length_cons]; omega
theorem hexTk_fits : ∀ (l : List UInt8) (p : Option Nat) (b : List UInt8) (k : Nat), (hexTk l p b k).1 = 0 → k < (hexTk l p b k).2.2 ∧ (hexTk l p b k).2.2 ≤ k + l.length
  | [], _, _, _, h => absurd (show (5 : Int) = 0 from h) (by decide)
  | c :: r, p, b, k, h => by
    unfold hexTk at h ⊢
    by_cases h62 : (c == 62) = true
    · rw [if_pos h62]; simp
    · rw [if_neg h62] at h ⊢
      by_cases hb : isBl c = true
      · rw [if_pos hb] at h ⊢
        have := hexTk_fits r _ _ _ h
        simp only [List.length_cons]; omega
      · rw [if_neg hb] at h ⊢
        by_cases hv : hexV c < 0
        · rw [if_pos hv] at h; exact absurd (show (4 : Int) = 0 from h) (by decide)
        · rw [if_neg hv] at h ⊢
          cases p with
          | none =>
            have := hexTk_fits r _ _ _ h
            simp only [List.length_cons]; omega
          | some x =>
            have := hexTk_fits r _ _ _ h
            simp only [List.length_cons]; omega
theorem V0_cnt (k n : Int) (s : ByteArray) : (V0 k n s).cnt = 1 := by rw [cnt_eq]; simp [V0, cntL, cntF]
theorem otherK_fits {s : ByteArray} {k : Nat} (hk : k ≤ s.size) (h : (otherK s k).2.2.1 = 0) : k < (otherK s k).2.2.2 := by
  have hl := yWordLe hk
  unfold otherK at h ⊢
  generalize wordP s k = W at hl h ⊢
  have hr : ∀ x, refP s (k + W.size) = some x → k + W.size < x := fun x h => by
    unfold refP at h
    split at h
    · rename_i h1
      split at h
      · injection h with h
        have a1 := yWordLe (s := s) (k := skipP s (k + W.size)) (skipP_le hl).2
        rw [h1] at a1
        have b1 : w0.size = 1 := rfl
        have a2 := (skipP_le hl).1
        have a3 := (skipP_le (s := s) (k := skipP s (k + W.size) + 1) (by omega)).1
        omega
      · cases h
    · cases h
  by_cases h1 : W = wNull
  · simp only [if_pos h1]; have : W.size = 4 := by rw [h1]; rfl
    omega
  · by_cases h2 : W = wTrue
    · simp only [if_neg h1, if_pos h2]; have : W.size = 4 := by rw [h2]; rfl
      omega
    · by_cases h3 : W = wFalse
      · simp only [if_neg h1, if_neg h2, if_pos h3]; have : W.size = 5 := by rw [h3]; rfl
        omega
      · by_cases h4 : objL W.data.toList ≠ 0 ∧ (refP s (k + W.size)).isSome = true
        · simp only [if_neg h1, if_neg h2, if_neg h3, if_pos h4]
          obtain ⟨x, hx⟩ := Option.isSome_iff_exists.1 h4.2
          rw [hx]
          have := hr x hx
          show k < x
          omega
        · simp only [if_neg h1, if_neg h2, if_neg h3, if_neg h4] at h ⊢
          by_cases h0 : W.size = 0
          · rw [toList_none h0] at h
            exact absurd h (by decide)
          · omega
/-- What is read fits into what was read of the text. -/
theorem rdV_fits (s : ByteArray) : ∀ n, Fits s (rdV s n)
  | 0 => fun j hj h => by
    unfold rdV at h
    simp only at h
    split at h
    · exact absurd h (by decide)
    · exact absurd h (by decide)
  | n + 1 => fun j hj h => by
    have hf := rdV_fits s n
    have hl := skipP_le hj
    unfold rdV at h ⊢
    by_cases h0 : skipP s j = s.size
    · rw [if_pos h0] at h; exact absurd (show (5 : Int) = 0 from h) (by decide)
    · rw [if_neg h0] at h ⊢
      have hpl : skipP s j < s.size := by omega
      generalize skipP s j = p at *
      have hd : (s.data.toList.drop (p + 1)).length = s.size - (p + 1) := by simp
      unfold rdAt at h ⊢
      by_cases h47 : s.data.toList[p]? = some 47
      · rw [if_pos h47] at h ⊢
        have hw := yWordLe (s := s) (k := p + 1) (by omega)
        unfold nameV at h ⊢
        cases hr : nameR (wordP s (p + 1)).data.toList with
        | none => rw [hr] at h; exact absurd (show (4 : Int) = 0 from h) (by decide)
        | some b => simp only [V0_cnt]; omega
      rw [if_neg h47] at h ⊢
      by_cases h40 : s.data.toList[p]? = some 40
      · rw [if_pos h40] at h ⊢
        unfold litV at h ⊢
        have := litF_fits _ _ _ _ _ (textR_zero h).1
        simp only [V0_cnt]
        unfold litT
        omega
      rw [if_neg h40] at h ⊢
      by_cases h60 : s.data.toList[p]? = some 60
      · rw [if_pos h60] at h ⊢
        by_cases h6 : s.data.toList[p + 1]? = some 60
        · rw [if_pos h6] at h ⊢
          have h6l : p + 1 < s.size := by simpa using (List.getElem?_eq_some_iff.1 h6).1
          unfold dictV at h ⊢
          have := rdD_fits hf 302 [] (p + 2) (by omega) h
          simp only [cnt_eq, cntL]
          simp only [cntF] at this
          omega
        · rw [if_neg h6] at h ⊢
          unfold hexW at h ⊢
          have := hexTk_fits _ _ _ _ (textR_zero h).1
          simp only [V0_cnt]
          omega
      rw [if_neg h60] at h ⊢
      by_cases h91 : s.data.toList[p]? = some 91
      · rw [if_pos h91] at h ⊢
        unfold listV at h ⊢
        have := rdL_fits hf 302 [] (p + 1) (by omega) h
        simp only [cnt_eq, cntF]
        simp only [cntL] at this
        omega
      rw [if_neg h91] at h ⊢
      split
      · rename_i hs; rw [if_pos hs] at h; exact absurd (show (4 : Int) = 0 from h) (by decide)
      · rename_i hs
        rw [if_neg hs] at h
        unfold otherV at h ⊢
        have h1 := otherK_fits (by omega) h
        have h2 := otherK_le (s := s) (k := p) (by omega)
        simp only [V0_cnt]
        omega
end Go.Proofs.YtflcibmjblioaaaGreatDoor

/-
  A walk over all that is in a value, by a question that may count in a variable of its own: what each call keeps, and the functions between.
-/
namespace Go.Proofs.YtflcibmjblioaaaGreatDoor
open Go.RowKit
set_option maxRecDepth 100000

section
variable (F : Value) (P : Nat) (w0 : World) (S : Nat → World → Prop) (G : V → Nat → Nat → Prop) (N : V → Nat)
/-- How a question went. -/
def Went (e : Ending) (w w' : World) (good : Prop) (s : Nat) : Prop := ∃ r : Bool, e = .returned (.bool r) ∧ (r = true ↔ good) ∧ (r = true → S s w') ∧ KeepBut P w w'
def EachOk (d : Nat) : Prop :=
  ∀ (v : V) (cs : List Value) (w : World) (deep s : Nat), RepN d w0 v cs → Below w0.heap.size w0 w → S s w → deep + v.dep ≤ 2000000 → s ≤ 300 →
    Calls Tryz.prog 97 #[.agg cs.toArray, .int .i64 deep, F] w fun e w' => Went P S e w w' (G v deep s) (s + N v)
/-- What came up to an element. -/
def sumN (l : List V) : Nat := (l.map N).sum
def Thr (l : List V) (deep s : Nat) : Prop := ∀ (i : Nat) (x : V), l[i]? = some x → G x deep (s + sumN N (l.take i))
end
theorem sumN_take (N : V → Nat) (l : List V) (j : Nat) (x : V) (h : l[j]? = some x) : sumN N (l.take (j + 1)) = sumN N (l.take j) + N x := by
  obtain ⟨hj, rfl⟩ := List.getElem?_eq_some_iff.1 h
  unfold sumN
  rw [List.take_succ_eq_append_getElem hj, List.map_append, List.sum_append]
  simp

section
variable {F : Value} {P : Nat} {w0 : World} {S : Nat → World → Prop} {G : V → Nat → Nat → Prop} {N : V → Nat}

theorem bad_one {d : Nat} (hE : EachOk F P w0 S G N d) (hS : ∀ s w w', S s w → Below w.heap.size w w' → S s w')
    (v : V) (cs : List Value) (w : World) (deep s B4 B5 : Nat) (hv : RepN d w0 v cs) (hb : Below w0.heap.size w0 w) (hs : S s w) (hd : deep + 1 + v.dep ≤ 2000000) (hs3 : s ≤ 300)
    (h4 : At w B4 3 #[.int .i64 deep]) (h5 : At w B5 143 #[F]) :
    Calls Tryz.prog 152 #[.agg cs.toArray, .pointer (some ⟨B4, 0, none⟩), .pointer (some ⟨B5, 0, none⟩)] w fun e w' => ∃ r : Bool, e = .returned (.bool r) ∧ (r = false ↔ G v (deep + 1) s) ∧ (r = false → S (s + N v) w') ∧ KeepBut P w w' := by
  obtain ⟨d', rfl⟩ := hv.inv
  have HV := hid hv
  have HS := hid hs
  have HE := hid hE
  have HSS := hid hS
  obtain ⟨al, af, cl, cf, rfl, _⟩ := hv
  have c4 := h4.cell 0
  have c5 := h5.cell 0
  have l4 := h4.lt
  have l5 := h5.lt
  clear hs hE hS
  simp at c4 c5
  go_enter Tryz.func152, Tryz.ntmps152
  go_wp2_with (go_at_call 97; go_loud (refine (HE.out v _ _ (deep + 1) s HV.out (hb.alloc hb.size _) (HSS.out _ _ _ HS.out (by go_grown)) hd hs3).mono ?_; rintro e w1 ⟨r, rfl, hr, hrs, hk⟩; have HRR := hid (And.intro hr hrs); clear hr hrs))
  go_ret
  exact ⟨!r, rfl, by have := HRR.out.1; cases r <;> simpa using this, fun h => HRR.out.2 (by cases r <;> simp_all), (KeepBut.of (by go_grown)).trans hk⟩

/-- The first that is bad, in a list. -/
theorem index_l {d : Nat} (hE : EachOk F P w0 S G N d) (hP : w0.heap.size ≤ P) (hS : ∀ s w w', S s w → Below w.heap.size w w' → S s w') (hG : ∀ x deep s, s ≤ 300 → G x deep s → s + N x ≤ 300)
    (l : List V) (al : Option Addr) (cl : Nat) (w : World) (deep s B4 B5 : Nat) (hl : l.length ≤ maxLen)
    (hL : ∀ (i : Nat) (x : V), l[i]? = some x → ∃ b off c, al = some ⟨b, off, none⟩ ∧ b < w0.heap.size ∧ CellsAt w0 b (off + i * 5) c ∧ RepN d w0 x c) (hdp : ∀ (i : Nat) (x : V), l[i]? = some x → deep + 1 + x.dep ≤ 2000000)
    (hb : Below w0.heap.size w0 w) (hs : S s w) (hs3 : s ≤ 300) (n4 : B4 ≠ P) (n5 : B5 ≠ P)
    (h4 : At w B4 3 #[.int .i64 deep]) (h5 : At w B5 143 #[F]) :
    Calls Tryz.prog 188 #[.slice al l.length cl, .func (.func 152) #[] #[.pointer (some ⟨B4, 0, none⟩), .pointer (some ⟨B5, 0, none⟩)]] w fun e w' => ∃ r : Int, e = .returned (.int .i64 r) ∧ (r < 0 ↔ Thr G N l (deep + 1) s) ∧ (r < 0 → S (s + sumN N l) w' ∧ s + sumN N l ≤ 300) ∧ KeepBut P w w' := by
  unfold maxLen at hl
  have HL := hid hL
  have HD := hid hdp
  have HS := hid hs
  have HB := hid hb
  have HG := hid hG
  have HS3 := hid hs3
  clear hL hdp hs hb hG hs3
  go_enter Tryz.func188, Tryz.ntmps188
  go_wp2_with fail
  go_loopw [8] (fun i wr => ∃ j : Nat, i = .int .i64 j ∧ j ≤ l.length ∧ (∀ (i : Nat) (x : V), i < j → l[i]? = some x → G x (deep + 1) (s + sumN N (l.take i))) ∧ (S (s + sumN N (l.take j)) wr ∧ s + sumN N (l.take j) ≤ 300) ∧ KeepBut P w wr) (fun i _ => l.length - (intOf i).toNat)
  case atStart => exact ⟨0, rfl, Nat.zero_le _, fun i x hi => by omega, by simpa [sumN] using ⟨HS.out, HS3.out⟩, KeepBut.refl _ _⟩
  case round =>
    obtain ⟨j, rfl, hj, hg, hsj, hK⟩ := hrel
    have HGJ := hid hg
    have HSJ := hid hsj
    clear hg hsj
    by_cases hjl : j < l.length
    · have hjl' : (j : Int) < l.length := by omega
      have hbr := hK.below HB.out hP
      obtain ⟨b, off, c, rfl, hbl, hc, hr⟩ := HL.out j l[j] (List.getElem?_eq_getElem hjl)
      have hr' := hr.later hbr
      obtain ⟨k1, n1, s1, a1, l1, c1, a2, l2, c2, rfl, g0, g1, g2, g3, g4⟩ := rep_cells hr' (hc.later hbl hbr)
      have HR := hid hr
      clear hr hr' hc
      have h4' := hK.at h4 n4
      have h5' := hK.at h5 n5
      go_wp2_with (go_at_call 152; refine (bad_one hE hS l[j] _ _ deep (s + sumN N (l.take j)) B4 B5 HR.out hbr HSJ.out.1 (HD.out j _ (List.getElem?_eq_getElem hjl)) HSJ.out.2 h4' h5').mono ?_; rintro e w1 ⟨r, rfl, hr, hrs, hk⟩; have HRR := hid (And.intro hr hrs); clear hr hrs; cases r)
      · go_roundw
        case rel =>
          have T := sumN_take N l j l[j] (List.getElem?_eq_getElem hjl)
          have q := HRR.out
          refine ⟨j + 1, by go_num, by omega, fun i x hi hx => ?_, ?_, hK.trans hk⟩
          · by_cases hij : i = j
            · rw [hij] at hx ⊢
              rw [List.getElem?_eq_getElem hjl] at hx
              cases hx
              exact q.1.1 (by first | rfl | trivial)
            · exact HGJ.out i x (by omega) hx
          · rw [T, ← Nat.add_assoc]
            exact ⟨q.2 (by first | rfl | trivial), HG.out _ _ _ HSJ.out.2 (q.1.1 (by first | rfl | trivial))⟩
        case measure => simp [intOf]; omega
      · go_ret
        exact ⟨j, rfl, iff_of_false (by omega) (fun h => by have := HRR.out.1.2 (h j _ (List.getElem?_eq_getElem hjl)); cases this), fun h => by omega, hK.trans hk⟩
    · have hjl' : ¬ (j : Int) < l.length := by omega
      have hje : j = l.length := by omega
      go_wp2_with fail
      go_ret
      refine ⟨-1, rfl, iff_of_true (by omega) (fun i x hx => HGJ.out i x (by have := (List.getElem?_eq_some_iff.1 hx).1; omega) hx), fun _ => ?_, hK⟩
      have q := HSJ.out
      rw [hje, List.take_length] at q
      exact q

theorem contains_l {d : Nat} (hE : EachOk F P w0 S G N d) (hP : w0.heap.size ≤ P) (hS : ∀ s w w', S s w → Below w.heap.size w w' → S s w') (hG : ∀ x deep s, s ≤ 300 → G x deep s → s + N x ≤ 300)
    (l : List V) (al : Option Addr) (cl : Nat) (w : World) (deep s B4 B5 : Nat) (hl : l.length ≤ maxLen)
    (hL : ∀ (i : Nat) (x : V), l[i]? = some x → ∃ b off c, al = some ⟨b, off, none⟩ ∧ b < w0.heap.size ∧ CellsAt w0 b (off + i * 5) c ∧ RepN d w0 x c) (hdp : ∀ (i : Nat) (x : V), l[i]? = some x → deep + 1 + x.dep ≤ 2000000)
    (hb : Below w0.heap.size w0 w) (hs : S s w) (hs3 : s ≤ 300) (n4 : B4 ≠ P) (n5 : B5 ≠ P)
    (h4 : At w B4 3 #[.int .i64 deep]) (h5 : At w B5 143 #[F]) :
    Calls Tryz.prog 153 #[.slice al l.length cl, .func (.func 152) #[] #[.pointer (some ⟨B4, 0, none⟩), .pointer (some ⟨B5, 0, none⟩)]] w fun e w' => ∃ r : Bool, e = .returned (.bool r) ∧ (r = false ↔ Thr G N l (deep + 1) s) ∧ (r = false → S (s + sumN N l) w' ∧ s + sumN N l ≤ 300) ∧ KeepBut P w w' := by
  have H := hid (index_l hE hP hS hG l al cl w deep s B4 B5 hl hL hdp hb hs hs3 n4 n5 h4 h5)
  clear hE hL hdp hb hs hs3 h4 h5 hS hG
  go_enter Tryz.func153, Tryz.ntmps153
  go_wp2_with (go_at_call 188; refine H.out.mono ?_; rintro e w1 ⟨r, rfl, hr, hrs, hk⟩; have HRR := hid (And.intro hr hrs); clear hr hrs)
  go_ret
  have q := HRR.out
  exact ⟨_, rfl, by rw [← q.1]; simp, fun h => q.2 (by simpa using h), hk⟩

theorem bad_field {d : Nat} (hE : EachOk F P w0 S G N d) (hS : ∀ s w w', S s w → Below w.heap.size w w' → S s w')
    (nm : ByteArray) (v : V) (cs : List Value) (w : World) (deep s B4 B5 B7 : Nat) (hv : RepN d w0 v cs) (hb : Below w0.heap.size w0 w) (hs : S s w) (hd : deep + 1 + v.dep ≤ 2000000) (hs3 : s ≤ 300)
    (h4 : At w B4 3 #[.int .i64 deep]) (h5 : At w B5 143 #[F]) (h7 : At w B7 145 #[.func (.func 152) #[] #[.pointer (some ⟨B4, 0, none⟩), .pointer (some ⟨B5, 0, none⟩)]]) :
    Calls Tryz.prog 155 #[.agg (.string nm :: cs).toArray, .pointer (some ⟨B7, 0, none⟩)] w fun e w' => ∃ r : Bool, e = .returned (.bool r) ∧ (r = false ↔ G v (deep + 1) s) ∧ (r = false → S (s + N v) w') ∧ KeepBut P w w' := by
  obtain ⟨d', rfl⟩ := hv.inv
  have H := hid (fun w1 hb1 hs1 h41 h51 => bad_one hE hS v cs w1 deep s B4 B5 hv hb1 hs1 hd hs3 h41 h51)
  have HS := hid hs
  have HSS := hid hS
  obtain ⟨al, af, cl, cf, rfl, _⟩ := hv
  have c7 := h7.cell 0
  have l7 := h7.lt
  clear hs hE hS
  simp at c7
  go_enter Tryz.func155, Tryz.ntmps155
  go_wp2_with (go_at_call 152; refine (H.out _ (hb.alloc hb.size _) (HSS.out _ _ _ HS.out (by go_grown)) (h4.alloc _) (h5.alloc _)).mono ?_; rintro e w1 ⟨r, rfl, hr, hrs, hk⟩; have HRR := hid (And.intro hr hrs); clear hr hrs)
  go_ret
  exact ⟨r, rfl, HRR.out.1, HRR.out.2, (KeepBut.of (by go_grown)).trans hk⟩
/-- The first that is bad, in a list. -/
theorem index_f {d : Nat} (hE : EachOk F P w0 S G N d) (hP : w0.heap.size ≤ P) (hS : ∀ s w w', S s w → Below w.heap.size w w' → S s w') (hG : ∀ x deep s, s ≤ 300 → G x deep s → s + N x ≤ 300)
    (l : List (ByteArray × V)) (al : Option Addr) (cl : Nat) (w : World) (deep s B4 B5 B7 : Nat) (hl : l.length ≤ maxLen)
    (hL : ∀ (i : Nat) (q : ByteArray × V), l[i]? = some q → ∃ b off c, al = some ⟨b, off, none⟩ ∧ b < w0.heap.size ∧ q.1.size ≤ maxLen ∧ w0.cell? ⟨b, off + i * 6, none⟩ = some (.string q.1) ∧ CellsAt w0 b (off + i * 6 + 1) c ∧ RepN d w0 q.2 c) (hdp : ∀ (i : Nat) (q : ByteArray × V), l[i]? = some q → deep + 1 + q.2.dep ≤ 2000000)
    (hb : Below w0.heap.size w0 w) (hs : S s w) (hs3 : s ≤ 300) (n4 : B4 ≠ P) (n5 : B5 ≠ P) (n7 : B7 ≠ P)
    (h4 : At w B4 3 #[.int .i64 deep]) (h5 : At w B5 143 #[F]) (h7 : At w B7 145 #[.func (.func 152) #[] #[.pointer (some ⟨B4, 0, none⟩), .pointer (some ⟨B5, 0, none⟩)]]) :
    Calls Tryz.prog 32 #[.slice al l.length cl, .func (.func 155) #[] #[.pointer (some ⟨B7, 0, none⟩)]] w fun e w' => ∃ r : Int, e = .returned (.int .i64 r) ∧ (r < 0 ↔ Thr G N (l.map (·.2)) (deep + 1) s) ∧ (r < 0 → S (s + sumN N (l.map (·.2))) w' ∧ s + sumN N (l.map (·.2)) ≤ 300) ∧ KeepBut P w w' := by
  unfold maxLen at hl
  have HL := hid hL
  have HD := hid hdp
  have HS := hid hs
  have HB := hid hb
  have HG := hid hG
  have HS3 := hid hs3
  clear hL hdp hs hb hG hs3
  go_enter Tryz.func32, Tryz.ntmps32
  go_wp2_with fail
  go_loopw [8] (fun i wr => ∃ j : Nat, i = .int .i64 j ∧ j ≤ l.length ∧ (∀ (i : Nat) (q : ByteArray × V), i < j → l[i]? = some q → G q.2 (deep + 1) (s + sumN N ((l.take i).map (·.2)))) ∧ (S (s + sumN N ((l.take j).map (·.2))) wr ∧ s + sumN N ((l.take j).map (·.2)) ≤ 300) ∧ KeepBut P w wr) (fun i _ => l.length - (intOf i).toNat)
  case atStart => exact ⟨0, rfl, Nat.zero_le _, fun i x hi => by omega, by simpa [sumN] using ⟨HS.out, HS3.out⟩, KeepBut.refl _ _⟩
  case round =>
    obtain ⟨j, rfl, hj, hg, hsj, hK⟩ := hrel
    have HGJ := hid hg
    have HSJ := hid hsj
    clear hg hsj
    by_cases hjl : j < l.length
    · have hjl' : (j : Int) < l.length := by omega
      have hbr := hK.below HB.out hP
      obtain ⟨b, off, c, rfl, hbl, _, hcn, hc, hr⟩ := HL.out j l[j] (List.getElem?_eq_getElem hjl)
      have hr' := hr.later hbr
      obtain ⟨k1, n1, s1, a1, l1, c1, a2, l2, c2, rfl, g0, g1, g2, g3, g4⟩ := rep_cells hr' (hc.later hbl hbr)
      have gn := (hbr.cell (p := ⟨b, off + j * 6, none⟩) hbl).trans hcn
      have HR := hid hr
      clear hr hr' hc hcn
      have h4' := hK.at h4 n4
      have h5' := hK.at h5 n5
      have h7' := hK.at h7 n7
      go_wp2_with (go_at_call 155; refine (bad_field hE hS l[j].1 l[j].2 _ _ deep (s + sumN N ((l.take j).map (·.2))) B4 B5 B7 HR.out hbr HSJ.out.1 (HD.out j _ (List.getElem?_eq_getElem hjl)) HSJ.out.2 h4' h5' h7').mono ?_; rintro e w1 ⟨r, rfl, hr, hrs, hk⟩; have HRR := hid (And.intro hr hrs); clear hr hrs; cases r)
      · go_roundw
        case rel =>
          have T : sumN N ((l.take (j + 1)).map (·.2)) = sumN N ((l.take j).map (·.2)) + N l[j].2 := by
            rw [List.map_take, List.map_take]
            exact sumN_take N (l.map (·.2)) j l[j].2 (by simp [hjl])
          have q := HRR.out
          refine ⟨j + 1, by go_num, by omega, fun i x hi hx => ?_, ?_, hK.trans hk⟩
          · by_cases hij : i = j
            · rw [hij] at hx ⊢
              rw [List.getElem?_eq_getElem hjl] at hx
              cases hx
              exact q.1.1 (by first | rfl | trivial)
            · exact HGJ.out i x (by omega) hx
          · rw [T, ← Nat.add_assoc]
            exact ⟨q.2 (by first | rfl | trivial), HG.out _ _ _ HSJ.out.2 (q.1.1 (by first | rfl | trivial))⟩
        case measure => simp [intOf]; omega
      · go_ret
        exact ⟨j, rfl, iff_of_false (by omega) (fun h => by have := HRR.out.1.2 (by rw [List.map_take]; exact h j _ (by simp [hjl])); cases this), fun h => by omega, hK.trans hk⟩
    · have hjl' : ¬ (j : Int) < l.length := by omega
      have hje : j = l.length := by omega
      go_wp2_with fail
      go_ret
      refine ⟨-1, rfl, iff_of_true (by omega) (fun i x hx => by
        rw [List.getElem?_map] at hx
        obtain ⟨y, hy, rfl⟩ := Option.map_eq_some_iff.1 hx
        rw [← List.map_take]
        exact HGJ.out i y (by have := (List.getElem?_eq_some_iff.1 hy).1; omega) hy), fun _ => ?_, hK⟩
      have q := HSJ.out
      rw [hje, List.take_length] at q
      exact q

theorem contains_f {d : Nat} (hE : EachOk F P w0 S G N d) (hP : w0.heap.size ≤ P) (hS : ∀ s w w', S s w → Below w.heap.size w w' → S s w') (hG : ∀ x deep s, s ≤ 300 → G x deep s → s + N x ≤ 300)
    (l : List (ByteArray × V)) (al : Option Addr) (cl : Nat) (w : World) (deep s B4 B5 B7 : Nat) (hl : l.length ≤ maxLen)
    (hL : ∀ (i : Nat) (q : ByteArray × V), l[i]? = some q → ∃ b off c, al = some ⟨b, off, none⟩ ∧ b < w0.heap.size ∧ q.1.size ≤ maxLen ∧ w0.cell? ⟨b, off + i * 6, none⟩ = some (.string q.1) ∧ CellsAt w0 b (off + i * 6 + 1) c ∧ RepN d w0 q.2 c) (hdp : ∀ (i : Nat) (q : ByteArray × V), l[i]? = some q → deep + 1 + q.2.dep ≤ 2000000)
    (hb : Below w0.heap.size w0 w) (hs : S s w) (hs3 : s ≤ 300) (n4 : B4 ≠ P) (n5 : B5 ≠ P) (n7 : B7 ≠ P)
    (h4 : At w B4 3 #[.int .i64 deep]) (h5 : At w B5 143 #[F]) (h7 : At w B7 145 #[.func (.func 152) #[] #[.pointer (some ⟨B4, 0, none⟩), .pointer (some ⟨B5, 0, none⟩)]]) :
    Calls Tryz.prog 154 #[.slice al l.length cl, .func (.func 155) #[] #[.pointer (some ⟨B7, 0, none⟩)]] w fun e w' => ∃ r : Bool, e = .returned (.bool r) ∧ (r = false ↔ Thr G N (l.map (·.2)) (deep + 1) s) ∧ (r = false → S (s + sumN N (l.map (·.2))) w' ∧ s + sumN N (l.map (·.2)) ≤ 300) ∧ KeepBut P w w' := by
  have H := hid (index_f hE hP hS hG l al cl w deep s B4 B5 B7 hl hL hdp hb hs hs3 n4 n5 n7 h4 h5 h7)
  clear hE hL hdp hb hs hs3 h4 h5 hS hG
  go_enter Tryz.func154, Tryz.ntmps154
  go_wp2_with (go_at_call 32; refine H.out.mono ?_; rintro e w1 ⟨r, rfl, hr, hrs, hk⟩; have HRR := hid (And.intro hr hrs); clear hr hrs)
  go_ret
  have q := HRR.out
  exact ⟨_, rfl, by rw [← q.1]; simp, fun h => q.2 (by simpa using h), hk⟩
end
end Go.Proofs.YtflcibmjblioaaaGreatDoor

/-
  The program's own answer whether names may be, and rise.
-/
namespace Go.Proofs.YtflcibmjblioaaaGreatDoor
open Go.RowKit
set_option maxRecDepth 100000

theorem At.setOne {w : World} {b : Nat} {t : TypeId} {u : Value} (h : At w b t #[u]) (v : Value) : At (w.setCell ⟨b, 0, none⟩ v) b t #[v] := by
  unfold At at *
  simp [World.setCell, Array.getElem?_modify, h]
theorem KeepBut.setCell {P : Nat} {w w' : World} (h : KeepBut P w w') (o : Nat) (v : Value) : KeepBut P w (w'.setCell ⟨P, o, none⟩ v) :=
  h.trans ⟨rfl, rfl, rfl, by simp [World.setCell], fun k _ hp => Below.heap_setCell _ _ _ _ hp⟩
/-- A name that may be, behind another one. -/
def NameAfter (prev nm : ByteArray) : Prop := nmOk nm = true ∧ risesB prev nm = true
theorem bytesLess_nil (l : List UInt8) : Op.bytesLess l [] = false := by cases l <;> rfl
theorem after_empty (nm : ByteArray) : NameAfter ⟨#[]⟩ nm ↔ nmOk nm = true := by
  refine ⟨fun h => h.1, fun h => ⟨h, ?_⟩⟩
  unfold risesB
  rw [ByteArray.toList_eq (⟨#[]⟩ : ByteArray)]
  show (!(Op.bytesLess nm.toList [] || nm.toList == [])) = true
  rw [bytesLess_nil]
  have : nm.toList ≠ [] := fun e => by
    have := (toList_nil nm).1 e
    rw [nmOk_len (by omega)] at h
    cases h
  simpa using this

theorem name_one (prev nm : ByteArray) (c0 c1 c2 c3 c4 : Value) (w : World) (P : Nat) (hP : At w P 9 #[.string prev]) (hn : nm.size ≤ maxLen) :
    Calls Tryz.prog 189 #[.agg #[.string nm, c0, c1, c2, c3, c4], .pointer (some ⟨P, 0, none⟩)] w fun e w' => ∃ r : Bool, e = .returned (.bool r) ∧ (r = false ↔ NameAfter prev nm) ∧ At w' P 9 #[.string nm] ∧ KeepBut P w w' := by
  have c := hP.cell 0
  have l := hP.lt
  have fr := hP.free 0
  simp at c
  go_enter Tryz.func189, Tryz.ntmps189
  cases hok : nmOk nm
  · have HOK := hid hok
    clear hok
    go_wp2_with (go_at_call 141; refine (vNameMay nm _ hn).mono ?_; rw [HOK.out]; rintro e w1 ⟨rfl, rfl⟩)
    go_ret
    exact ⟨true, rfl, iff_of_false (by simp) (fun h => absurd (HOK.out.symm.trans h.1) Bool.false_ne_true), (hP.setOne _).alloc _, ((KeepBut.refl _ _).setCell _ _).trans (KeepBut.of ((Below.refl _ _).alloc (Nat.le_refl _) _))⟩
  · have HOK := hid hok
    clear hok
    cases hle : (Op.bytesLess nm.toList prev.toList || nm.toList == prev.toList)
    all_goals
      have HLE := hid (show risesB prev nm = _ from congrArg Bool.not hle)
      go_wp2_with (go_at_call 141; refine (vNameMay nm _ hn).mono ?_; rw [HOK.out]; rintro e w1 ⟨rfl, rfl⟩)
      go_ret
      refine ⟨_, rfl, ?_, (hP.setOne _).alloc _, ((KeepBut.refl _ _).setCell _ _).trans (KeepBut.of ((Below.refl _ _).alloc (Nat.le_refl _) _))⟩
      first
        | exact iff_of_true rfl ⟨HOK.out, HLE.out⟩
        | exact iff_of_false (by simp) (fun h => absurd (HLE.out.symm.trans h.2) Bool.false_ne_true)

theorem index_nm {d : Nat} (l : List (ByteArray × V)) (al : Option Addr) (cl : Nat) (w0 w : World) (P : Nat) (hl : l.length ≤ maxLen)
    (hL : ∀ (i : Nat) (q : ByteArray × V), l[i]? = some q → ∃ b off c, al = some ⟨b, off, none⟩ ∧ b < w0.heap.size ∧ q.1.size ≤ maxLen ∧ w0.cell? ⟨b, off + i * 6, none⟩ = some (.string q.1) ∧ CellsAt w0 b (off + i * 6 + 1) c ∧ RepN d w0 q.2 c)
    (hb : Below w0.heap.size w0 w) (hP0 : w0.heap.size ≤ P) (hP : At w P 9 #[.string ⟨#[]⟩]) :
    Calls Tryz.prog 32 #[.slice al l.length cl, .func (.func 189) #[] #[.pointer (some ⟨P, 0, none⟩)]] w fun e w' => ∃ r : Int, e = .returned (.int .i64 r) ∧ (r < 0 ↔ Names l) ∧ KeepBut P w w' := by
  unfold maxLen at hl
  have HL := hid hL
  have HB := hid hb
  clear hL hb
  go_enter Tryz.func32, Tryz.ntmps32
  go_wp2_with fail
  go_loopw [8] (fun i wr => ∃ (j : Nat) (prev : ByteArray), i = .int .i64 j ∧ j ≤ l.length ∧ (∀ (i : Nat) (q : ByteArray × V), i < j → l[i]? = some q → nmOk q.1 = true ∧ ∀ (j : Nat) (p : ByteArray × V), i = j + 1 → l[j]? = some p → risesB p.1 q.1 = true) ∧ ((j = 0 ∧ prev = ⟨#[]⟩) ∨ ∃ i q, j = i + 1 ∧ l[i]? = some q ∧ prev = q.1) ∧ At wr P 9 #[.string prev] ∧ KeepBut P w wr) (fun i _ => l.length - (intOf i).toNat)
  case atStart => exact ⟨0, _, rfl, Nat.zero_le _, fun i x hi => by omega, .inl ⟨rfl, rfl⟩, hP, KeepBut.refl _ _⟩
  case round =>
    obtain ⟨j, prev, rfl, hj, hg, hpv, hA, hK⟩ := hrel
    have HGJ := hid hg
    have HPV := hid hpv
    clear hg hpv
    by_cases hjl : j < l.length
    · have hjl' : (j : Int) < l.length := by omega
      have hbr := hK.below HB.out hP0
      obtain ⟨b, off, c, rfl, hbl, hnl, hcn, hc, hr⟩ := HL.out j l[j] (List.getElem?_eq_getElem hjl)
      have hr' := hr.later hbr
      obtain ⟨k1, n1, s1, a1, l1, c1, a2, l2, c2, rfl, g0, g1, g2, g3, g4⟩ := rep_cells hr' (hc.later hbl hbr)
      have gn := (hbr.cell (p := ⟨b, off + j * 6, none⟩) hbl).trans hcn
      clear hr hr' hc hcn
      go_wp2_with (go_at_call 189; refine (name_one prev l[j].1 _ _ _ _ _ _ P hA hnl).mono ?_; rintro e w1 ⟨r, rfl, hr, hA1, hk⟩; have HRR := hid hr; clear hr; cases r)
      · go_roundw
        case rel =>
          have q := HRR.out.1 (by first | rfl | trivial)
          refine ⟨j + 1, l[j].1, by go_num, by omega, fun i x hi hx => ?_, .inr ⟨j, _, rfl, List.getElem?_eq_getElem hjl, rfl⟩, hA1, hK.trans hk⟩
          by_cases hij : i = j
          · rw [hij, List.getElem?_eq_getElem hjl] at hx
            cases hx
            refine ⟨q.1, fun m p e hp => ?_⟩
            rcases HPV.out with ⟨e0, _⟩ | ⟨i', q', e1, e2, e3⟩
            · omega
            · have : m = i' := by omega
              rw [this, e2] at hp
              cases hp
              rw [← e3]
              exact q.2
          · exact HGJ.out i x (by omega) hx
        case measure => simp [intOf]; omega
      · go_ret
        refine ⟨j, rfl, iff_of_false (by omega) (fun h => ?_), hK.trans hk⟩
        have hN := h j _ (List.getElem?_eq_getElem hjl)
        have bad : ¬ NameAfter prev l[j].1 := fun q => by have := HRR.out.2 q; cases this
        rcases HPV.out with ⟨_, e0⟩ | ⟨i', q', e1, e2, e3⟩
        · rw [e0] at bad
          exact bad ((after_empty _).2 hN.1)
        · rw [e3] at bad
          exact bad ⟨hN.1, hN.2 i' q' e1 e2⟩
    · have hjl' : ¬ (j : Int) < l.length := by omega
      go_wp2_with fail
      go_ret
      exact ⟨-1, rfl, iff_of_true (by omega) (fun i x hx => HGJ.out i x (by have := (List.getElem?_eq_some_iff.1 hx).1; omega) hx), hK⟩

theorem contains_nm {d : Nat} (l : List (ByteArray × V)) (al : Option Addr) (cl : Nat) (w0 w : World) (P : Nat) (hl : l.length ≤ maxLen)
    (hL : ∀ (i : Nat) (q : ByteArray × V), l[i]? = some q → ∃ b off c, al = some ⟨b, off, none⟩ ∧ b < w0.heap.size ∧ q.1.size ≤ maxLen ∧ w0.cell? ⟨b, off + i * 6, none⟩ = some (.string q.1) ∧ CellsAt w0 b (off + i * 6 + 1) c ∧ RepN d w0 q.2 c)
    (hb : Below w0.heap.size w0 w) (hP0 : w0.heap.size ≤ P) (hP : At w P 9 #[.string ⟨#[]⟩]) :
    Calls Tryz.prog 154 #[.slice al l.length cl, .func (.func 189) #[] #[.pointer (some ⟨P, 0, none⟩)]] w fun e w' => ∃ r : Bool, e = .returned (.bool r) ∧ (r = false ↔ Names l) ∧ KeepBut P w w' := by
  have H := hid (index_nm l al cl w0 w P hl hL hb hP0 hP)
  clear hL hb hP
  go_enter Tryz.func154, Tryz.ntmps154
  go_wp2_with (go_at_call 32; refine H.out.mono ?_; rintro e w1 ⟨r, rfl, hr, hk⟩; have HRR := hid hr; clear hr)
  go_ret
  have q := HRR.out
  exact ⟨_, rfl, by rw [← q]; simp, hk⟩

theorem namesMay_says {d : Nat} (l : List (ByteArray × V)) (al : Option Addr) (cl : Nat) (w : World) (hl : l.length ≤ maxLen)
    (hL : ∀ (i : Nat) (q : ByteArray × V), l[i]? = some q → ∃ b off c, al = some ⟨b, off, none⟩ ∧ b < w.heap.size ∧ q.1.size ≤ maxLen ∧ w.cell? ⟨b, off + i * 6, none⟩ = some (.string q.1) ∧ CellsAt w b (off + i * 6 + 1) c ∧ RepN d w q.2 c) :
    Calls Tryz.prog 157 #[.slice al l.length cl] w fun e w' => ∃ r : Bool, e = .returned (.bool r) ∧ (r = true ↔ Names l) ∧ Below w.heap.size w w' := by
  have H := hid (fun w1 hb hP => contains_nm l al cl w w1 w.heap.size hl hL hb (Nat.le_refl _) hP)
  clear hL
  go_enter Tryz.func157, Tryz.ntmps157
  go_wp2_with (go_at_call 154; go_loud (refine (H.out _ (by go_grown) (by first | exact At.new _ _ _ rfl | exact (At.new _ _ _ rfl).setOne _)).mono ?_; rintro e w1 ⟨r, rfl, hr, hk⟩; have HRR := hid hr; clear hr))
  go_ret
  exact ⟨!r, rfl, by have := HRR.out; cases r <;> simpa using this, hk.below (by go_grown) (Nat.le_refl _)⟩
end Go.Proofs.YtflcibmjblioaaaGreatDoor
