/-
  The reader: texts.
-/
import Derived.Test.YtcfalgomcdmdhaaDoorJChar
import Derived.Test.YtcfalgomcdmdhaaDoorJFull
namespace Go.Proofs.YtcfalgomcdmdhaaDoor
open Go.RowKit Go.WideShapes Go.Joins

/-- a text up to its closing quote -/
def charsN : Nat → List Nat → J.Rd (List Nat)
  | 0, _ => fun _ => .out
  | n + 1, o => J.sw (fun c =>
      if c < 32 then .stop 160
      else if c = 34 then .go (J.Rd.pure o)
      else if c = 92 then .take (J.escaped.then fun x => charsN n (o ++ J.utf8 x))
      else .go (chrR.then fun x => charsN n (o ++ x))) (.bad 160 [])
def charsR (F : Nat) : J.Rd (List Nat) := (J.need 34 34).then fun _ => charsN F []
theorem need_step {α : Type} (c : Nat) (hc : c < 256) (q : J.Rd α) (σ : RS) (ho : σ.ok) : goR ((J.need c c).then fun _ => q) σ = goR q (σ.must (oneS c)) := by
  cases σ with
  | dead s e => simp [RS.must, has_dead, RS.refuse, goR_dead]
  | live s i =>
    have hx := has_iff s i (oneS c)
    rw [oneS_nums hc, List.mem_singleton] at hx
    unfold RS.must
    by_cases hi : i < s.size
    · by_cases hd : (numsOf s).getD i 0 = c
      · have hn : goR (J.need c c) (.live s i) = (.live s (i + 1), some ((numsOf s).getD i 0)) := by
          unfold J.need
          rw [goR_sw _ _ hi]
          simp only [hd, Nat.le_refl, and_self, if_true]
          exact goR_pure _ (by omega)
        rw [goR_some (J.Good.need _ _) hn, hx.2 ⟨hi, hd⟩, if_pos rfl]
        rfl
      · have hn : goR (J.need c c) (.live s i) = (.dead (cutS s i) 160, none) := by
          unfold J.need
          rw [goR_sw _ _ hi, if_neg (by omega)]
        rw [goR_none (J.Good.need _ _) hn, if_neg (fun h => hd (hx.1 h).2)]
        rfl
    · have hn : goR (J.need c c) (.live s i) = (.dead s 160, none) := goR_end _ hi
      rw [goR_none (J.Good.need _ _) hn, if_neg (fun h => hi (hx.1 h).1)]
      have : i = s.size := by simp only [RS.ok] at ho; omega
      subst this
      simp only [RS.refuse, cutS_all, goR_dead]
/-- a reader told by what it gives -/
theorem goR_thenF {α β γ : Type} {p : J.Rd α} (f : α → γ) {q : γ → J.Rd β} (hs : ∀ l v r, p l = .ok v r → ∃ a, l = a ++ r) {σ : RS} {ys : γ} (h : ∀ x, (goR p σ).2 = some x → ys = f x) : goR (p.then fun x => q (f x)) σ = goR (q ys) (goR p σ).1 := by
  cases σ with
  | dead s e => rfl
  | live s i =>
    simp only [goR] at h ⊢
    simp only [J.Rd.then]
    cases hv : p ((numsOf s).drop i) with
    | ok v r =>
      obtain ⟨a, ha⟩ := hs _ _ _ hv
      rw [hv] at h
      have := h v rfl
      subst this
      simp only [rest_back ha]
    | bad e r => rfl
    | out => rfl
theorem charT_two {sz lo hi : Nat} {t : List Nat} : (charT sz lo hi t).2 = true → 2 ≤ (charT sz lo hi t).1 := by
  rcases t with _ | ⟨b1, _ | ⟨b2, _ | ⟨b3, t⟩⟩⟩ <;> simp only [charT] <;> (repeat' split) <;> intro h <;> first | exact absurd h (by decide) | decide
theorem charN_two {l : List Nat} (h : (charN l).2 = true) : 2 ≤ (charN l).1 := by
  cases l with
  | nil => cases h
  | cons b0 t =>
    simp only [charN] at h ⊢
    split at h
    · cases h
    · rename_i hb
      rw [if_neg hb]
      exact charT_two h
theorem chrR_suf : ∀ l v r, chrR l = .ok v r → ∃ a, l = a ++ r := by
  intro l v r h
  unfold chrR at h
  cases l with
  | nil => cases h
  | cons c l =>
    simp only [J.sw] at h
    split at h
    · rename_i q hq
      split at hq <;> cases hq
      cases h
      exact ⟨[c], rfl⟩
    · rename_i q hq
      split at hq <;> cases hq
      exact (J.Good.then J.Good.char.seen fun _ => J.Good.pure _).okS _ _ _ h
    · cases h
theorem goR_on {α : Type} {p : J.Rd α} (hs : ∀ l v r, p l = .ok v r → ∃ a, l = a ++ r) {s : ByteArray} {i : Nat} {σ' : RS} {v : α} (h : goR p (.live s i) = (σ', some v)) (hi : i ≤ s.size) :
    ∃ j, σ' = .live s j ∧ i ≤ j ∧ j ≤ s.size ∧ ∃ r, p ((numsOf s).drop i) = .ok v r ∧ r.length = s.size - j := by
  simp only [goR] at h
  cases hv : p ((numsOf s).drop i) with
  | ok x r =>
    rw [hv] at h
    cases h
    obtain ⟨a, ha⟩ := hs _ _ _ hv
    have hl := congrArg List.length ha
    rw [rest_len, List.length_append] at hl
    exact ⟨_, rfl, by omega, by omega, r, rfl, by omega⟩
  | bad e r => rw [hv] at h; cases h
  | out => rw [hv] at h; cases h
/-- a character takes as many bytes as it gives -/
theorem chrR_len {l : List Nat} {v : List Nat} {r : List Nat} (h : chrR l = .ok v r) : 1 ≤ v.length ∧ l.length = v.length + r.length := by
  unfold chrR at h
  cases l with
  | nil => cases h
  | cons c l =>
    simp only [J.sw] at h
    split at h
    · rename_i q hq
      split at hq <;> cases hq
      cases h
      exact ⟨by simp, by simp; omega⟩
    · rename_i q hq
      split at hq <;> cases hq
      obtain ⟨x, m, h1, h2⟩ := J.then_ok h
      cases h2
      obtain ⟨h3, h4⟩ := J.seen_ok J.Good.char h1
      have e := char_is (c :: l)
      rw [h3] at e
      cases hc : (charN (c :: l)).2 with
      | false => rw [hc] at e; simp at e
      | true =>
        rw [hc] at e
        simp only [if_true, J.Res.ok.injEq] at e
        have n2 := charN_two hc
        have nl := charN_le hc
        have hl := congrArg List.length h4
        have hr := congrArg List.length e.2
        rw [List.length_append] at hl
        rw [List.length_drop] at hr
        exact ⟨by omega, by omega⟩
    · cases h
/-- textN is a text up to its closing quote, and that -/
def closeN (ns : List (List Nat)) (o : List Nat) : J.Rd (List Nat) :=
  J.sw (fun c => if c = 34 then (if o ∈ ns then .stop 160 else .take (J.Rd.pure o)) else .stop 160) (.bad 160 [])
theorem textN_chars (ns : List (List Nat)) : ∀ (n : Nat) (o : List Nat), J.textN ns n o = (charsN n o).then (closeN ns)
  | 0, o => rfl
  | n + 1, o => by
    funext l
    cases l with
    | nil => rfl
    | cons c l =>
      by_cases h1 : c < 32
      · simp only [J.textN, charsN, J.sw, J.Rd.then, h1, if_true]
      by_cases h2 : c = 34
      · subst h2
        simp only [J.textN, charsN, J.sw, J.Rd.then, closeN, J.Rd.pure, if_true, (by decide : ¬ 34 < 32), if_false]
      by_cases h3 : c = 92
      · subst h3
        simp only [J.textN, charsN, J.sw, if_true, (by decide : ¬ 92 < 32), (by decide : ¬ (92 = 34)), if_false]
        simp only [J.Rd.then, J.sw, if_true, (by decide : ¬ 92 < 32), (by decide : ¬ (92 = 34)), if_false]
        cases he : J.escaped l with
        | ok x r => simp only [textN_chars ns n]; rfl
        | bad e r => rfl
        | out => rfl
      by_cases h4 : c < 128
      · simp only [J.textN, charsN, J.sw, J.Rd.then, h1, h2, h3, if_false, chrR, h4, if_true, J.Rd.pure, textN_chars ns n]
      · simp only [J.textN, charsN, J.sw, J.Rd.then, h1, h2, h3, if_false, chrR, h4]
        simp only [J.Rd.seen, J.Rd.pure, textN_chars ns n]
        cases he : J.char (c :: l) <;> rfl
/-! the walk -/
theorem full_any' : FullAny := fun s w h1 h2 => full_any s w h1 h2
def emptyBox : Obj := .cells #[.pointer none, .slice none 0 0] 64
theorem bld_new (w : World) : Bld (w.alloc emptyBox) w.heap.size [] := by
  refine .inl ⟨Nat.le_refl _, .slice none 0 0, heap_alloc_new _ _, World.ownsRowF_nil _ _ _ _, by simp [Value.ownBlock]⟩
theorem bytes_str {xs : List Nat} (h : ∀ c ∈ xs, c < 256) : Lib.byteCells (xs.map UInt8.ofNat) = Bs xs := by
  unfold Lib.byteCells Bs
  rw [List.map_map]
  apply List.map_congr_left
  intro c hc
  simp [Nat.mod_eq_of_lt (h c hc)]
/-- the text that a builder holds -/
theorem string_any (w : World) (NB : Nat) (xs : List Nat) (h : Bld w NB xs) (hx : ∀ c ∈ xs, c < 256) :
    Calls Tryd.prog 35 #[rp NB] w fun e w' => e = .returned (.string (strOf xs)) ∧ Bld w' NB xs ∧ Below NB w w' := by
  have hl := h.lt
  have h' := h
  unfold Bld at h'
  rw [← bytes_str hx] at h'
  refine (Any.Builder_String_any_k lays169 extra169 NB NB (xs.map UInt8.ofNat) w h' (by omega)).mono ?_
  rintro e w' ⟨rfl, hB, hb, _⟩
  rw [bytes_str hx] at hB
  refine ⟨?_, hB, hb⟩
  congr 2
  apply bytes_inj
  rw [strOf_list]
/-- Between the characters of a text. -/
inductive ChsI (F : Nat) (σm : RS) (b NB : Nat) (w : World) (gk : Nat) (wr : World) : Prop where
  | intro (σ : RS) (xs : List Nat) (n : Nat) (hr : RIn wr b σ) (hB : Bld wr NB xs) (hK : KB NB b w wr) (hx : ∀ c ∈ xs, c < 256) (he : goR (charsN n xs) σ = goR (charsN F []) σm)
      (hl : ∀ s i, σ = .live s i → xs.length ≤ 4 * i ∧ s.size - i < n ∧ s.size - i < gk) (hd : xs.length ≤ 70000)
theorem chs_stop {n c : Nat} {xs : List Nat} {σ : RS} (hc : σ.pk = c) (h : c < 32) (ho : σ.ok) : goR (charsN (n + 1) xs) σ = (σ.refuse 160, none) := by
  unfold charsN
  refine sw_stop ho fun s i _ _ => ?_
  simp only [hc, h, if_true]
theorem chs_quote {n : Nat} {xs : List Nat} {s : ByteArray} {i : Nat} (hc : (RS.live s i).pk = 34) (hi : i ≤ s.size) : goR (charsN (n + 1) xs) (.live s i) = (.live s i, some xs) := by
  unfold charsN
  rw [sw_go (q := J.Rd.pure xs) (by rw [hc]; decide) (by rw [hc]; rfl)]
  exact goR_pure xs hi
theorem chs_esc {n : Nat} {xs ys : List Nat} {σ : RS} (hc : σ.pk = 92) (hy : ∀ x, (goR J.escaped σ.next).2 = some x → ys = J.utf8 x) :
    goR (charsN (n + 1) xs) σ = goR (charsN n (xs ++ ys)) (goR J.escaped σ.next).1 := by
  rw [show charsN (n + 1) xs = J.sw _ _ from rfl, sw_take (q := J.escaped.then fun x => charsN n (xs ++ J.utf8 x)) (by rw [hc]; decide) (by rw [hc]; rfl)]
  exact goR_thenF (f := J.utf8) (q := fun y => charsN n (xs ++ y)) J.Good.escaped.okS hy
theorem chs_char {n c : Nat} {xs ys : List Nat} {σ : RS} (hc : σ.pk = c) (h1 : ¬ c < 32) (h2 : c ≠ 34) (h3 : c ≠ 92) (hy : ∀ x, (goR chrR σ).2 = some x → ys = x) :
    goR (charsN (n + 1) xs) σ = goR (charsN n (xs ++ ys)) (goR chrR σ).1 := by
  rw [show charsN (n + 1) xs = J.sw _ _ from rfl, sw_go (q := chrR.then fun x => charsN n (xs ++ x)) (by omega) (by simp only [hc, h1, h2, h3, if_false])]
  exact goR_thenF (f := fun x => x) (q := fun y => charsN n (xs ++ y)) chrR_suf hy
structure ChsP (b F : Nat) (σ : RS) (w : World) (e : Ending) (w' : World) : Prop where
  ex : ∃ str : ByteArray, e = .returned (.string str) ∧ (∀ v, (goR (charsR F) σ).2 = some v → numsOf str = v) ∧ RIn w' b (goR (charsR F) σ).1 ∧ w.grownBy w' (some b)
set_option maxHeartbeats 2000000 in
set_option maxRecDepth 8000 in
theorem chars_any (F b : Nat) (hF : 20000 ≤ F) (σ : RS) (w : World) (h : RIn w b σ) (h8 : 8 ≤ b) (hL : Laid w) : Calls Tryd.prog 56 #[rp b] w fun e w' => ChsP b F σ w e w' := by
  have hlt := h.lt
  have hA := h.below ((Below.refl _ _).alloc (Nat.le_refl _) emptyBox)
  have M := must_any b σ (oneS 34) (w.alloc emptyBox) hA
  have hT : Hid (goR (charsR F) σ = goR (charsN F []) (σ.must (oneS 34))) := need_step 34 (by decide) _ σ h.ok
  have hN : Bld (w.alloc emptyBox) w.heap.size [] := bld_new w
  have hsz := h.sz
  have hK0 : KB w.heap.size b w (w.alloc emptyBox) := KB.of_below ((Below.refl _ _).alloc (Nat.le_refl _) emptyBox)
  have H0 : Hid (Bld (w.alloc emptyBox) w.heap.size [] ∧ KB w.heap.size b w (w.alloc emptyBox) ∧ Laid w ∧ b < w.heap.size) := ⟨hN, hK0, hL, hlt⟩
  generalize σ.must (oneS 34) = σm at M hT
  generalize σ.has (oneS 34) = B at M
  rw [show oneS 34 = ⟨#[34]⟩ from rfl] at M
  obtain ⟨NB, hNB⟩ : ∃ NB, w.heap.size = NB := ⟨_, rfl⟩
  clear h hA hN hK0 hlt hL
  unfold rp emptyBox at M
  unfold rp
  go_enter Tryd.func56, Tryd.ntmps56
  go_wp2_with fail
  refine M.mono ?_
  rintro e w1 ⟨rfl, h1, g1⟩
  simp only []
  have hm : Bld w1 NB [] ∧ KB NB b w w1 := by
    have H := H0.out
    rw [← hNB]
    exact ⟨H.1.grown H.2.2.2 g1, H.2.1.trans (KB.of_grown g1 (by simp))⟩
  have HN : Hid (NB = w.heap.size ∧ b < NB) := ⟨hNB.symm, by rw [← hNB]; exact H0.out.2.2.2⟩
  have hz := h1.sz
  clear hNB g1 M
  go_wp2_with fail
  go_loopg [] F (fun gk wr => ChsI F σm b NB w gk wr)
  case atStart => exact ⟨σm, [], F, h1, hm.1, hm.2, by simp, rfl, by intro s i e; subst e; simp only [RS.s] at hz; exact ⟨by simp, by omega, by omega⟩, by simp⟩
  case round =>
    clear h1 hm hz
    obtain ⟨σ1, xs, n, hr, hB, hK, hx, he, hl, hd⟩ := hrel
    have c2 := hr.c2
    -- the end of the loop: what it holds is the text
    have HE : Hid (∀ w3 o, Bld w3 NB xs → KB NB b w w3 → RIn w3 b σ1 → goR (charsN F []) σm = (σ1, o) → (∀ v, o = some v → v = xs) →
        Calls Tryd.prog 35 #[rp NB] w3 fun e w' => ∃ str, e = .returned (.string str) ∧ ChsP b F σ w (.returned (.string str)) w') := by
      intro w3 o hB3 hK3 hr3 ho hv
      refine (string_any w3 NB xs hB3 hx).mono ?_
      rintro e w4 ⟨rfl, hB4, hb4⟩
      have hn := HN.out
      refine ⟨_, rfl, ⟨_, rfl, fun v hv' => ?_, ?_, (hK3.trans (KB.of_below hb4)).grown hn.1⟩⟩
      · rw [hT.out, ho] at hv'
        rw [nums_strOf hx, hv v hv']
      · rw [hT.out, ho]
        exact hr3.keep hb4 hn.2
    unfold rp at HE
    cases σ1 with
    | dead s e =>
      simp only [RS.e] at c2
      have he0 : ((e : Int) == 0) = false := by
        have := hr.ok.1
        simpa using fun x : (e : Int) = 0 => this (by omega)
      have S := HE.out wr none hB hK hr he.symm (by simp)
      clear hr hB hK hx he hl
      go_wp2_with fail
      refine S.mono ?_
      rintro e w4 ⟨str, rfl, P⟩
      simp only []
      go_wp2
      go_ret
      exact P
    | live s i =>
      simp only [RS.e] at c2
      rw [show (((0 : Nat) : Int)) = 0 from rfl] at c2
      obtain ⟨hl1, hl2, hl3⟩ := hl s i rfl
      obtain ⟨n', rfl⟩ : ∃ n', n = n' + 1 := ⟨n - 1, by omega⟩
      have hsz1 : s.size ≤ 16384 := hr.sz
      have hile : i ≤ s.size := hr.le
      have P1 := peek_any b (.live s i) wr hr
      have hpk := pk_lt (.live s i)
      obtain ⟨c, hc⟩ : ∃ c, (RS.live s i).pk = c := ⟨_, rfl⟩
      have HC : Hid ((RS.live s i).pk = c) := hc
      rw [hc] at P1 hpk
      have HM : Hid (∀ w', Below wr.heap.size wr w' → RIn w' b (.live s i) ∧ Bld w' NB xs ∧ KB NB b w w' ∧ Laid w') := fun w' hw =>
        ⟨hr.below hw, hB.grown HN.out.2 (grown_below hw _), hK.trans (KB.of_below (hw.mono (by have := hB.lt; omega))), (H0.out.2.2.1.kb hK h8 HN.out.2).below hw (by have := hB.lt; have := HN.out; omega)⟩
      have HQ : Hid (xs.length ≤ 4 * i ∧ s.size - i < n' + 1 ∧ s.size - i < gk ∧ s.size ≤ 16384 ∧ i ≤ s.size ∧ (∀ c ∈ xs, c < 256) ∧ xs.length ≤ 70000) := ⟨hl1, hl2, hl3, hsz1, hile, hx, hd⟩
      have HX : Hid (goR (charsN (n' + 1) xs) (.live s i) = goR (charsN F []) σm) := he
      unfold rp at P1
      by_cases q : c = 34
      · subst q
        have hq := chs_quote (n := n') (xs := xs) hc hile
        rw [show (((34 : Nat) : Int)) = 34 from rfl] at P1
        have HT2 : Hid (goR (charsN F []) σm = (.live s i, some xs)) := by show _ = _; rw [← he]; exact hq
        clear hr hB hK hx he hl hq hc hpk hl1 hl2 hl3
        go_wp2_with (go_at_call 54; refine P1.mono ?_; rintro e w2 ⟨rfl, hb2⟩)
        have hm := HM.out w2 hb2
        have S := HE.out w2 (some xs) hm.2.1 hm.2.2.1 hm.1 HT2.out (by intro v hv; cases hv; rfl)
        clear hm
        refine S.mono ?_
        rintro e w4 ⟨str, rfl, P⟩
        simp only []
        go_wp2
        go_ret
        exact P
      · have q1 : ((c : Int) == 34) = false := by simpa using fun e : (c : Int) = 34 => q (by omega)
        have hp0 : c ≠ 0 → i < s.size := by
          intro hne
          by_cases hlt : i < s.size
          · exact hlt
          · rw [pk_out s i hlt] at hc
            exact absurd hc.symm hne
        have P2 := fun w' hw => peek_any b (.live s i) w' (HM.out w' hw).1
        rw [hc] at P2
        unfold rp at P2
        -- behind a reader that goes on
        have HG : Hid (∀ (σ' : RS) (ys : List Nat) (w' : World), RIn w' b σ' → Bld w' NB (xs ++ ys) → KB NB b w w' → ys.length ≤ 4 → (∀ c ∈ ys, c < 256) → goR (charsN n' (xs ++ ys)) σ' = goR (charsN F []) σm →
            (∀ s' i', σ' = .live s' i' → s' = s ∧ i + 1 ≤ i' ∧ i' ≤ s.size) → ChsI F σm b NB w (gk - 1) w') := by
          intro σ' ys w' a1 a2 a3 a4 a5 a6 a7
          have hq := HQ.out
          refine ⟨σ', xs ++ ys, n', a1, a2, a3, ?_, a6, fun s' i' e => ?_, by rw [List.length_append]; omega⟩
          · intro y hy
            rcases List.mem_append.1 hy with hy | hy
            · exact hq.2.2.2.2.2.1 y hy
            · exact a5 y hy
          · obtain ⟨rfl, b1, b2⟩ := a7 s' i' e
            rw [List.length_append]
            omega
        have HL : Hid (∀ {α : Type} (p : J.Rd α) (j : Nat), (∀ l v r, p l = .ok v r → ∃ a, l = a ++ r) → j ≤ s.size → ∀ s' i', (goR p (.live s j)).1 = .live s' i' → s' = s ∧ j ≤ i' ∧ i' ≤ s.size ∧ ∃ v, (goR p (.live s j)) = (.live s' i', some v)) := by
          intro α p j hs hj s' i' e
          cases ho : goR p (.live s j) with
          | mk σ' o =>
            rw [ho] at e
            simp only at e
            subst e
            cases o with
            | none => obtain ⟨_, _, h'⟩ := goR_over ho; cases h'
            | some v =>
              obtain ⟨k, h1, h2, h3, _⟩ := goR_on hs ho hj
              cases h1
              exact ⟨rfl, h2, h3, v, rfl⟩
        have HO : Hid ((RS.live s i).ok) := hr.ok
        clear hr hB hK hx he hl HE
        by_cases q2 : c = 92
        · subst q2
          have hi : i < s.size := hp0 (by decide)
          have HI : Hid (i < s.size) := hi
          simp only [show (((92 : Nat) : Int)) = 92 from rfl] at P1 P2
          have C1 : Hid (∀ w', Below wr.heap.size wr w' → w'.cell? ⟨b, 1, none⟩ = some (.int .i64 (i : Int)) ∧ w'.frozen? ⟨b, 1, none⟩ = false) := fun w' hw => ⟨(HM.out w' hw).1.c1, (HM.out w' hw).1.fz 1⟩
          obtain ⟨I, hI⟩ : ∃ I : Int, (i : Int) = I := ⟨_, rfl⟩
          have I0 : 0 ≤ I := by omega
          have I1 : I < 1000000 := by omega
          rw [hI] at C1
          have HII : Hid ((i : Int) = I) := hI
          clear hI hi hp0 hc hpk hl1 hl2 hl3 q q1
          go_wp2_with (first | (go_at_call 54; refine (P2 w2 hb2).mono ?_; rintro e w3 ⟨rfl, hb3⟩; obtain ⟨c1, f1⟩ := C1.out w3 (below_more hb2 hb3)) | (go_at_call 54; refine P1.mono ?_; rintro e w2 ⟨rfl, hb2⟩) | fail)
          have hm := HM.out w3 (below_more hb2 hb3)
          have hs := hm.1.step HI.out
          rw [HII.out] at hs
          have hB4 := hm.2.1.grown HN.out.2 (grown_set w3 b 1 (.int .i64 (I + 1)))
          have E := escape_any b NB (.live s (i + 1)) xs _ hs hB4 HN.out.2 (by have := HQ.out; omega)
          unfold rp at E
          have HK4 : Hid (KB NB b w (w3.setCell ⟨b, 1, none⟩ (.int .i64 (I + 1)))) := hm.2.2.1.trans (KB.of_grown (grown_set _ _ _ _) (by have := hm.2.1.lt; omega))
          clear hm hs hB4
          refine E.mono ?_
          rintro e w5 ⟨rfl, ys, y1, y2, y3, y4, y5, y6⟩
          simp only []
          go_wp2
          go_roundg (gk - 1)
          case measure => have := HQ.out; omega
          case rel =>
            refine HG.out _ ys w5 y5 y4 (HK4.out.trans y6) y1 y3 ?_ ?_
            · have hh := chs_esc (n := n') (xs := xs) (ys := ys) HC.out y2
              rw [← HX.out, hh]; rfl
            · intro s' i' e
              obtain ⟨k1, k2, k3, _⟩ := HL.out J.escaped (i + 1) J.Good.escaped.okS HI.out s' i' e
              exact ⟨k1, k2, k3⟩
        · have q3 : ((c : Int) == 92) = false := by simpa using fun e : (c : Int) = 92 => q2 (by omega)
          by_cases q4 : c < 32
          · have q5 : (c : Int) < 32 := by omega
            have hh := chs_stop (n := n') (xs := xs) hc q4 HO.out
            have HH : Hid (goR (charsN (n' + 1) xs) (.live s i) = ((RS.live s i).refuse 160, none)) := hh
            clear hh hp0 hc hpk hl1 hl2 hl3 q q2 q4
            go_wp2_with (first | (go_at_call 54; refine (P2 w2 hb2).mono ?_; rintro e w3 ⟨rfl, hb3⟩) | (go_at_call 54; refine P1.mono ?_; rintro e w2 ⟨rfl, hb2⟩) | fail)
            have hm := HM.out w3 (below_more hb2 hb3)
            have R := refuse_any b (.live s i) 160 ⟨by decide, by decide⟩ w3 hm.1
            unfold rp at R
            have HK4 : Hid (Bld w3 NB xs ∧ KB NB b w w3) := ⟨hm.2.1, hm.2.2.1⟩
            clear hm
            refine R.mono ?_
            rintro e w5 ⟨rfl, h5, g5⟩
            simp only []
            go_wp2
            go_roundg (gk - 1)
            case measure => have := HQ.out; omega
            case rel =>
              refine HG.out _ [] w5 h5 (by rw [List.append_nil]; exact HK4.out.1.grown HN.out.2 g5) (HK4.out.2.trans (KB.of_grown g5 (by have := HK4.out.1.lt; omega))) (by simp) (by simp) ?_ ?_
              · rw [← HX.out, HH.out]; rfl
              · intro s' i' e; cases e
          · have q5 : ¬ (c : Int) < 32 := by omega
            have hi : i < s.size := hp0 (by omega)
            have HI : Hid (i < s.size) := hi
            have HH : Hid (∀ ys, (∀ x, (goR chrR (.live s i)).2 = some x → ys = x) → goR (charsN (n' + 1) xs) (.live s i) = goR (charsN n' (xs ++ ys)) (goR chrR (.live s i)).1) := fun ys hy => chs_char hc q4 q q2 hy
            clear hi hp0 hc hpk hl1 hl2 hl3 q q2 q4
            go_wp2_with (first | (go_at_call 54; refine (P2 w2 hb2).mono ?_; rintro e w3 ⟨rfl, hb3⟩) | (go_at_call 54; refine P1.mono ?_; rintro e w2 ⟨rfl, hb2⟩) | fail)
            have hm := HM.out w3 (below_more hb2 hb3)
            have E := char_any full_any' b NB s i HI.out xs w3 hm.1 hm.2.1 HN.out.2 h8 hm.2.2.2 (by have := HQ.out; omega)
            unfold rp at E
            have HK4 : Hid (KB NB b w w3) := hm.2.2.1
            clear hm
            refine E.mono ?_
            rintro e w5 ⟨rfl, ys, y1, y2, y3, y4, y5, y6⟩
            simp only []
            go_wp2
            go_roundg (gk - 1)
            case measure => have := HQ.out; omega
            case rel =>
              refine HG.out _ ys w5 y5 y4 (HK4.out.trans y6) y1 y3 (by rw [← HX.out, HH.out ys y2]) ?_
              intro s' i' e
              obtain ⟨k1, k2, k3, v, hv⟩ := HL.out chrR i chrR_suf (Nat.le_of_lt HI.out) s' i' e
              subst k1
              obtain ⟨j, e1, e2, e3, r, e4, e5⟩ := goR_on chrR_suf hv (Nat.le_of_lt HI.out)
              cases e1
              have hc := chrR_len e4
              rw [rest_len] at hc
              exact ⟨rfl, by omega, k3⟩
end Go.Proofs.YtcfalgomcdmdhaaDoor
