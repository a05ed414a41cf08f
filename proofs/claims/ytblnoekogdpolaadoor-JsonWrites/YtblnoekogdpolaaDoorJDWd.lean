import Derived.Test.YtblnoekogdpolaaDoorJDSt
namespace Go.Proofs.YtblnoekogdpolaaDoor
open Go.RowKit Go.WideShapes Go.Joins
theorem need_go (lo hi : Nat) {σ : RS} (ho : σ.ok) :
    (((lo : Int) ≤ σ.nx ∧ σ.nx ≤ (hi : Int)) → ∃ s i, σ = .live s i ∧ i < s.size ∧ σ.nx = (((numsOf s).getD i 0 : Nat) : Int) ∧ goR (J.need lo hi) σ = (.live s (i + 1), some ((numsOf s).getD i 0))) ∧
    (¬ ((lo : Int) ≤ σ.nx ∧ σ.nx ≤ (hi : Int)) → goR (J.need lo hi) σ = (σ.refuse 160, none)) := by
  cases σ with
  | dead s e => exact ⟨fun h => absurd h.1 (by simp only [RS.nx]; omega), fun _ => rfl⟩
  | live s i =>
    by_cases hi' : i < s.size
    · have hn : goR (J.need lo hi) (.live s i) = if lo ≤ (numsOf s).getD i 0 ∧ (numsOf s).getD i 0 ≤ hi then (.live s (i + 1), some ((numsOf s).getD i 0)) else (.dead (cutS s i) 160, none) := by
        unfold J.need
        rw [goR_sw _ _ hi']
        by_cases hd : lo ≤ (numsOf s).getD i 0 ∧ (numsOf s).getD i 0 ≤ hi
        · simp only [hd, and_self, if_true]
          exact goR_pure _ (by omega)
        · simp only [hd, if_false]
      have hx : RS.nx (.live s i) = (((numsOf s).getD i 0 : Nat) : Int) := by simp only [RS.nx, hi', if_true]
      rw [hx, hn]
      refine ⟨fun h => ⟨s, i, rfl, hi', rfl, by rw [if_pos (by omega)]⟩, fun h => by rw [if_neg (by omega)]; rfl⟩
    · have hx : RS.nx (.live s i) = -1 := by simp only [RS.nx, hi', if_false]
      rw [hx]
      refine ⟨fun h => absurd h.1 (by omega), fun _ => ?_⟩
      have : i = s.size := by simp only [RS.ok] at ho; omega
      subst this
      have e : goR (J.need lo hi) (.live s s.size) = (.dead s 160, none) := goR_end _ hi'
      rw [e]
      simp only [RS.refuse, cutS_all]
theorem DIn.c1 {w : World} {b : Nat} {s : ByteArray} {dp i : Nat} (h : DIn w b s dp (.live s i)) : w.cell? ⟨b, 1, none⟩ = some (.int .i64 (i : Int)) := by
  obtain ⟨j, a, h1, h2, hb, h3, h4⟩ := h.ex
  obtain ⟨_, rfl⟩ := h3 s i rfl
  rw [cell_of_block hb]; rfl
theorem DIn.fz {w : World} {b : Nat} {S : ByteArray} {dp : Nat} {σ : RS} (h : DIn w b S dp σ) (k : Nat) : w.frozen? ⟨b, k, none⟩ = false := by
  obtain ⟨j, a, h1, h2, hb, h3, h4⟩ := h.ex
  exact unfrozen_of_block hb k
theorem DIn.is {w : World} {b : Nat} {S s : ByteArray} {dp i : Nat} (h : DIn w b S dp (.live s i)) : s = S := by
  obtain ⟨j, a, h1, h2, hb, h3, h4⟩ := h.ex
  exact (h3 s i rfl).1
theorem DIn.step {w : World} {b : Nat} {s : ByteArray} {dp i : Nat} (h : DIn w b s dp (.live s i)) (hi : i < s.size) : DIn (w.setCell ⟨b, 1, none⟩ (.int .i64 ((i : Int) + 1))) b s dp (.live s (i + 1)) := by
  obtain ⟨j, a, h1, h2, hb, h3, h4⟩ := h.ex
  obtain ⟨_, rfl⟩ := h3 s i rfl
  refine ⟨by simp only [RS.ok]; omega, h.sz, h.dpl, j + 1, a, by omega, h2, ?_, (fun s' i' e => by cases e; exact ⟨rfl, rfl⟩), (fun s' e' e => by cases e)⟩
  have := block_setCell (i := 1) hb (.int .i64 ((j : Int) + 1))
  rw [Int.natCast_add]
  exact this
theorem DIn.c1' {w : World} {b : Nat} {S : ByteArray} {dp : Nat} {σ : RS} (h : DIn w b S dp σ) : ∃ i : Nat, i ≤ 20001 ∧ w.cell? ⟨b, 1, none⟩ = some (.int .i64 (i : Int)) ∧ ∀ s j, σ = .live s j → (i : Int) = (j : Int) := by
  obtain ⟨i, a, h1, h2, hb, h3, h4⟩ := h.ex
  exact ⟨i, by have := h.sz; omega, by rw [cell_of_block hb]; rfl, fun s j e => by rw [(h3 s j e).2]⟩
set_option maxHeartbeats 400000 in
theorem need_any (b : Nat) (S : ByteArray) (dp lo hi : Nat) (hl : lo ≤ 255 ∧ hi ≤ 255) (σ : RS) (w : World) (h : DIn w b S dp σ) :
    Calls Tryd.prog 93 #[rp b, .int .u8 (lo : Int), .int .u8 (hi : Int)] w fun e w' => e = .returned (.int .i64 (((goR (J.need lo hi) σ).2.getD 0 : Nat) : Int)) ∧ DIn w' b S dp (goR (J.need lo hi) σ).1 ∧ w.grownBy w' (some b) := by
  have N := next_any b S dp σ w h
  have hgo := need_go lo hi h.ok
  have HI : Hid (DIn w b S dp σ) := h
  obtain ⟨L, hL⟩ : ∃ L : Int, (lo : Int) = L := ⟨_, rfl⟩
  obtain ⟨H, hH⟩ : ∃ H : Int, (hi : Int) = H := ⟨_, rfl⟩
  have w1 : wrap64 L = L := by unfold wrap64; omega
  have w2 : wrap64 H = H := by unfold wrap64; omega
  by_cases hc : (lo : Int) ≤ σ.nx ∧ σ.nx ≤ (hi : Int)
  · obtain ⟨s, i, rfl, hi', hx, hg⟩ := hgo.1 hc
    obtain rfl := h.is
    rw [hg]
    have HX : Hid (RS.nx (.live s i) = (((numsOf s).getD i 0 : Nat) : Int) ∧ i < s.size) := ⟨hx, hi'⟩
    have hi2 : i ≤ 20000 := by have := h.sz; omega
    obtain ⟨V, hV⟩ : ∃ V, RS.nx (.live s i) = V := ⟨_, rfl⟩
    rw [hL, hH, hV] at hc
    rw [hV] at N HX
    have q1 : ¬ V < L := by omega
    have q2 : ¬ H < V := by omega
    have HC : Hid (∀ w', Below w.heap.size w w' → w'.cell? ⟨b, 1, none⟩ = some (.int .i64 (i : Int)) ∧ w'.frozen? ⟨b, 1, none⟩ = false ∧ DIn (w'.setCell ⟨b, 1, none⟩ (.int .i64 ((i : Int) + 1))) b s dp (.live s (i + 1))) := fun w' hb =>
      ⟨(h.below hb).c1, (h.below hb).fz 1, (h.below hb).step hi'⟩
    obtain ⟨I, hI⟩ : ∃ I : Int, (i : Int) = I := ⟨_, rfl⟩
    have I0 : 0 ≤ I := by omega
    have I1 : I < 1000000 := by omega
    rw [hI] at HC
    rw [hL, hH]
    clear hgo hc hx hg hV hL hH hl h hi' hI hi2
    unfold rp at N ⊢
    go_enter Tryd.func93, Tryd.ntmps93
    go_wp2_with (go_at_call 70; refine N.mono ?_; rintro e w3 ⟨rfl, hb3⟩; obtain ⟨c1, f1, _⟩ := HC.out w3 hb3)
    go_ret
    exact ⟨by simp only [Option.getD_some]; rw [← HX.out.1]; rfl, (HC.out w3 hb3).2.2, grown_trans (grown_below hb3 _) (grown_set _ _ _ _)⟩
  · have hg := hgo.2 hc
    rw [hg]
    obtain ⟨V, hV⟩ : ∃ V, σ.nx = V := ⟨_, rfl⟩
    rw [hL, hH, hV] at hc
    rw [hV] at N
    have HC : Hid (∀ w', Below w.heap.size w w' → ∃ i : Nat, w'.cell? ⟨b, 1, none⟩ = some (.int .i64 (i : Int)) ∧ Calls Tryd.prog 40 #[rp b, .int .i64 160, .int .i64 (i : Int)] w' fun e w'' => e = .returned (.tuple #[]) ∧ DIn w'' b S dp (σ.refuse 160) ∧ w'.grownBy w'' (some b)) := fun w' hb => by
      obtain ⟨i, _, hc1, hc2⟩ := (h.below hb).c1'
      exact ⟨i, hc1, fail_any b S dp σ 160 (i : Int) hc2 ⟨by decide, by decide⟩ w' (h.below hb)⟩
    rw [hL, hH]
    unfold rp at N HC ⊢
    by_cases q1 : V < L
    · clear hgo hc hg hV hL hH hl h
      go_enter Tryd.func93, Tryd.ntmps93
      go_wp2_with (first | (go_at_call 40; refine Fl.mono ?_; rintro e w4 ⟨rfl, h4, g4⟩) | (go_at_call 70; refine N.mono ?_; rintro e w3 ⟨rfl, hb3⟩; obtain ⟨i, c1, Fl⟩ := HC.out w3 hb3) | fail)
      go_ret
      exact ⟨rfl, h4, grown_trans (grown_below hb3 _) g4⟩
    · have q2 : H < V := by omega
      clear hgo hc hg hV hL hH hl h
      go_enter Tryd.func93, Tryd.ntmps93
      go_wp2_with (first | (go_at_call 40; refine Fl.mono ?_; rintro e w4 ⟨rfl, h4, g4⟩) | (go_at_call 70; refine N.mono ?_; rintro e w3 ⟨rfl, hb3⟩; obtain ⟨i, c1, Fl⟩ := HC.out w3 hb3) | fail)
      go_ret
      exact ⟨rfl, h4, grown_trans (grown_below hb3 _) g4⟩
end Go.Proofs.YtblnoekogdpolaaDoor
namespace Go.Proofs.YtblnoekogdpolaaDoor
open Go.RowKit Go.WideShapes Go.Joins
theorem may_st (x : Nat) {σ : RS} (ho : σ.ok) :
    (σ.nx = (x : Int) → ∃ s i, σ = .live s i ∧ i < s.size ∧ goR (J.may x) σ = (.live s (i + 1), some true)) ∧
    (¬ σ.nx = (x : Int) → (goR (J.may x) σ).1 = σ ∧ ∀ v, (goR (J.may x) σ).2 = some v → v = false) := by
  cases σ with
  | dead s e => exact ⟨fun h => absurd h (by simp only [RS.nx]; omega), fun _ => ⟨rfl, fun v hv => by cases hv⟩⟩
  | live s i =>
    by_cases hi' : i < s.size
    · have hx : RS.nx (.live s i) = (((numsOf s).getD i 0 : Nat) : Int) := by simp only [RS.nx, hi', if_true]
      rw [hx]
      unfold J.may
      rw [goR_sw _ _ hi']
      by_cases hd : (numsOf s).getD i 0 = x
      · simp only [hd, if_true]
        exact ⟨fun _ => ⟨s, i, rfl, hi', goR_pure _ (by omega)⟩, fun h => absurd trivial h⟩
      · simp only [hd, if_false]
        rw [goR_pure _ (by omega)]
        exact ⟨fun h => absurd (by omega) hd, fun _ => ⟨rfl, fun v hv => by cases hv; rfl⟩⟩
    · have hx : RS.nx (.live s i) = -1 := by simp only [RS.nx, hi', if_false]
      rw [hx]
      have hle : i ≤ s.size := ho
      have e : goR (J.may x) (.live s i) = (.live s i, some false) := goR_endo _ _ hi' hle
      rw [e]
      exact ⟨fun h => absurd h (by omega), fun _ => ⟨rfl, fun v hv => by cases hv; rfl⟩⟩
structure MayP (b : Nat) (S : ByteArray) (dp x : Nat) (σ : RS) (w : World) (e : Ending) (w' : World) : Prop where
  ex : ∃ B : Bool, e = .returned (.bool B) ∧ (B = true ↔ σ.nx = (x : Int)) ∧ (∀ v, (goR (J.may x) σ).2 = some v → B = v) ∧ DIn w' b S dp (goR (J.may x) σ).1 ∧ w.grownBy w' (some b)
set_option maxHeartbeats 400000 in
theorem may_any (b : Nat) (S : ByteArray) (dp x : Nat) (hl : x ≤ 255) (σ : RS) (w : World) (h : DIn w b S dp σ) :
    Calls Tryd.prog 92 #[rp b, .int .u8 (x : Int)] w fun e w' => MayP b S dp x σ w e w' := by
  have N := next_any b S dp σ w h
  have hgo := may_st x h.ok
  obtain ⟨X, hX⟩ : ∃ X : Int, (x : Int) = X := ⟨_, rfl⟩
  have w1 : wrap64 X = X := by unfold wrap64; omega
  by_cases hc : σ.nx = (x : Int)
  · obtain ⟨s, i, rfl, hi', hg⟩ := hgo.1 hc
    obtain rfl := h.is
    have hi2 : i ≤ 20000 := by have := h.sz; omega
    have HC : Hid (∀ w', Below w.heap.size w w' → w'.cell? ⟨b, 1, none⟩ = some (.int .i64 (i : Int)) ∧ w'.frozen? ⟨b, 1, none⟩ = false ∧ DIn (w'.setCell ⟨b, 1, none⟩ (.int .i64 ((i : Int) + 1))) b s dp (.live s (i + 1))) := fun w' hb =>
      ⟨(h.below hb).c1, (h.below hb).fz 1, (h.below hb).step hi'⟩
    have HR : Hid (goR (J.may x) (.live s i) = (.live s (i + 1), some true) ∧ RS.nx (.live s i) = (x : Int)) := ⟨hg, hc⟩
    obtain ⟨I, hI⟩ : ∃ I : Int, (i : Int) = I := ⟨_, rfl⟩
    have I0 : 0 ≤ I := by omega
    have I1 : I < 1000000 := by omega
    rw [hI] at HC
    rw [hc, hX] at N
    rw [hX]
    clear hgo hc hg hX hl h hi' hI hi2
    unfold rp at N ⊢
    go_enter Tryd.func92, Tryd.ntmps92
    go_wp2_with (go_at_call 70; refine N.mono ?_; rintro e w3 ⟨rfl, hb3⟩; obtain ⟨c1, f1, _⟩ := HC.out w3 hb3)
    go_ret
    refine ⟨true, rfl, ⟨fun _ => HR.out.2, fun _ => rfl⟩, fun v hv => ?_, ?_, grown_trans (grown_below hb3 _) (grown_set _ _ _ _)⟩
    · rw [HR.out.1] at hv; cases hv; rfl
    · rw [HR.out.1]; exact (HC.out w3 hb3).2.2
  · have hg := hgo.2 hc
    obtain ⟨V, hV⟩ : ∃ V, σ.nx = V := ⟨_, rfl⟩
    have HR : Hid ((goR (J.may x) σ).1 = σ ∧ (∀ v, (goR (J.may x) σ).2 = some v → v = false) ∧ ¬ σ.nx = (x : Int) ∧ DIn w b S dp σ) := ⟨hg.1, hg.2, hc, h⟩
    rw [hX, hV] at hc
    have hb1 : (V == X) = false := by simpa using hc
    have hb2 : (V != X) = true := by simp only [bne, hb1, Bool.not_false]
    rw [hV] at N
    rw [hX]
    clear hgo hc hg hX hl h hV
    unfold rp at N ⊢
    go_enter Tryd.func92, Tryd.ntmps92
    go_wp2_with (go_at_call 70; refine N.mono ?_; rintro e w3 ⟨rfl, hb3⟩)
    go_ret
    refine ⟨false, rfl, ⟨(fun h => by cases h), fun h => absurd h HR.out.2.2.1⟩, fun v hv => (HR.out.2.1 v hv).symm, ?_, grown_below hb3 _⟩
    rw [HR.out.1]; exact HR.out.2.2.2.below hb3
end Go.Proofs.YtblnoekogdpolaaDoor
namespace Go.Proofs.YtblnoekogdpolaaDoor
open Go.RowKit Go.WideShapes Go.Joins
theorem nx_has (σ : RS) (t : ByteArray) : σ.has t = true ↔ ∃ c ∈ numsOf t, σ.nx = (c : Int) := by
  cases σ with
  | dead s e =>
    rw [has_dead]
    refine ⟨(fun h => by cases h), ?_⟩
    rintro ⟨c, _, h⟩
    simp only [RS.nx] at h; omega
  | live s i =>
    rw [has_iff]
    by_cases hi : i < s.size
    · simp only [RS.nx, hi, if_true, true_and]
      exact ⟨fun h => ⟨_, h, rfl⟩, fun ⟨c, hc, h⟩ => by rw [show (numsOf s).getD i 0 = c by omega]; exact hc⟩
    · simp only [RS.nx, hi, if_false, false_and, false_iff]
      rintro ⟨c, _, h⟩
      omega
theorem has_live {σ : RS} {t : ByteArray} (h : σ.has t = true) : ∃ s i, σ = .live s i ∧ i < s.size := by
  cases σ with
  | dead s e => rw [has_dead] at h; cases h
  | live s i => exact ⟨s, i, rfl, ((has_iff s i t).1 h).1⟩
inductive DSkI (f : Nat → Bool) (σ0 : RS) (b : Nat) (S : ByteArray) (dp : Nat) (w : World) (gk : Nat) (wr : World) : Prop where
  | intro (σ : RS) (hr : DIn wr b S dp σ) (he : (goR (J.skip f) σ).1 = (goR (J.skip f) σ0).1) (hm : σ.left ≤ gk) (hg : w.grownBy wr (some b))
end Go.Proofs.YtblnoekogdpolaaDoor
namespace Go.Proofs.YtblnoekogdpolaaDoor
open Go.RowKit Go.WideShapes Go.Joins
theorem need_then {α : Type} (lo hi : Nat) (q : J.Rd α) (σ : RS) : goR ((J.need lo hi).then fun _ => q) σ = goR q (goR (J.need lo hi) σ).1 := goR_thenV (q := fun _ => q) (J.Good.need lo hi) (gives_get _ _ 0)
theorem nx_dig (σ : RS) : σ.has digitS = true ↔ (48 ≤ σ.nx ∧ σ.nx ≤ 57) := by
  rw [nx_has, show numsOf digitS = [48, 49, 50, 51, 52, 53, 54, 55, 56, 57] from rfl]
  simp only [List.mem_cons, List.not_mem_nil, or_false, exists_eq_or_imp, exists_eq_left]
  omega
set_option maxHeartbeats 1000000 in
theorem ddigits_any (b : Nat) (S : ByteArray) (dp : Nat) (σ : RS) (w : World) (h : DIn w b S dp σ) : Calls Tryd.prog 96 #[rp b] w fun e w' => e = .returned (.tuple #[]) ∧ DIn w' b S dp (goR J.digits σ).1 ∧ w.grownBy w' (some b) := by
  have N := need_any b S dp 48 57 ⟨by decide, by decide⟩ σ w h
  have hgo : goR J.digits σ = goR (J.skip J.isDig) (goR (J.need 48 57) σ).1 := need_then 48 57 _ σ
  rw [hgo]
  generalize (goR (J.need 48 57) σ).1 = σm at N
  generalize (((goR (J.need 48 57) σ).2.getD 0 : Nat) : Int) = V0 at N
  simp only [show (((48 : Nat) : Int)) = 48 from rfl, show (((57 : Nat) : Int)) = 57 from rfl] at N
  unfold rp at N ⊢
  clear h hgo
  go_enter Tryd.func96, Tryd.ntmps96
  go_wp2_with (go_at_call 93; refine N.mono ?_; rintro e w0 ⟨rfl, h0, g0⟩)
  clear N
  go_loopg [] σm.left (fun gk wr => DSkI J.isDig σm b S dp w gk wr)
  case atStart => exact ⟨σm, h0, rfl, Nat.le_refl _, g0⟩
  case round =>
    clear h0 g0
    obtain ⟨σ1, hr, he, hm, hg⟩ := hrel
    have HN : Hid (∀ w', Below wr.heap.size wr w' → Calls Tryd.prog 70 #[rp b] w' fun e w'' => e = .returned (.int .i64 σ1.nx) ∧ Below w'.heap.size w' w'') := fun w' hb => next_any b S dp σ1 w' (hr.below hb)
    have HB0 : Hid (Below wr.heap.size wr wr) := Below.refl _ _
    have hx := nx_dig σ1
    cases hh : σ1.has digitS with
    | true =>
      obtain ⟨s, i, rfl, hi⟩ := has_live hh
      obtain rfl := hr.is
      have hq := hx.1 hh
      have hi2 : i ≤ 20000 := by have := hr.sz; omega
      have HC : Hid (∀ w', Below wr.heap.size wr w' → w'.cell? ⟨b, 1, none⟩ = some (.int .i64 (i : Int)) ∧ w'.frozen? ⟨b, 1, none⟩ = false ∧ DIn (w'.setCell ⟨b, 1, none⟩ (.int .i64 ((i : Int) + 1))) b s dp (.live s (i + 1))) := fun w' hb =>
        ⟨(hr.below hb).c1, (hr.below hb).fz 1, (hr.below hb).step hi⟩
      have e2 : Hid ((goR (J.skip J.isDig) (RS.live s (i + 1))).1 = (goR (J.skip J.isDig) σm).1 ∧ (RS.live s (i + 1)).left < (RS.live s i).left ∧ (RS.live s i).left ≤ gk ∧ w.grownBy wr (some b)) :=
        ⟨by have := has_step isDig_iff hh; rw [← he, this]; rfl, left_next hh, hm, hg⟩
      obtain ⟨I, hI⟩ : ∃ I : Int, (i : Int) = I := ⟨_, rfl⟩
      have I0 : 0 ≤ I := by omega
      have I1 : I < 1000000 := by omega
      rw [hI] at HC
      generalize RS.nx (.live s i) = V at HN hq
      unfold rp at HN
      obtain ⟨q1, q2⟩ := hq
      clear hr he hm hg hh hx hi hI hi2
      have fin : Hid (∀ w3, Below wr.heap.size wr w3 → DSkI J.isDig σm b s dp w (gk - 1) (w3.setCell ⟨b, 1, none⟩ (.int .i64 (I + 1)))) := fun w3 hb3 =>
        ⟨_, (HC.out w3 hb3).2.2, e2.out.1, by have := e2.out; omega, grown_trans e2.out.2.2.2 (grown_trans (grown_below hb3 _) (grown_set _ _ _ _))⟩
      go_wp2_with (first
          | (go_at_call 70; refine (HN.out w3 hb3).mono ?_; rintro e w4 ⟨rfl, hb⟩; have hb4 := below_more hb3 hb; clear c1 f1; obtain ⟨c1, f1, _⟩ := HC.out w4 hb4)
          | (go_at_call 70; refine (HN.out wr HB0.out).mono ?_; rintro e w3 ⟨rfl, hb3⟩; obtain ⟨c1, f1, _⟩ := HC.out w3 hb3)
          | fail)
      go_roundg (gk - 1)
      case measure => have := e2.out; omega
      case rel => exact fin.out w4 hb4
    | false =>
      have e2 : Hid ((goR (J.skip J.isDig) σm).1 = σ1 ∧ w.grownBy wr (some b) ∧ DIn wr b S dp σ1) := ⟨by rw [← he]; exact has_stop isDig_iff hr.ok hh, hg, hr⟩
      have hq : ¬ (48 ≤ σ1.nx ∧ σ1.nx ≤ 57) := fun q => by have := hx.2 q; rw [hh] at this; cases this
      generalize σ1.nx = V at HN hq
      unfold rp at HN
      clear hr he hm hg hh hx
      by_cases q1 : 48 ≤ V
      · have q2 : ¬ V ≤ 57 := fun q => hq ⟨q1, q⟩
        clear hq
        go_wp2_with (first
          | (go_at_call 70; refine (HN.out w3 hb3).mono ?_; rintro e w4 ⟨rfl, hb⟩; have hb4 := below_more hb3 hb)
          | (go_at_call 70; refine (HN.out wr HB0.out).mono ?_; rintro e w3 ⟨rfl, hb3⟩)
          | fail)
        go_end0
        rw [e2.out.1]
        exact ⟨rfl, e2.out.2.2.below hb4, grown_trans e2.out.2.1 (grown_below hb4 _)⟩
      · clear hq
        go_wp2_with (first
          | (go_at_call 70; refine (HN.out wr HB0.out).mono ?_; rintro e w3 ⟨rfl, hb3⟩)
          | fail)
        go_end0
        rw [e2.out.1]
        exact ⟨rfl, e2.out.2.2.below hb3, grown_trans e2.out.2.1 (grown_below hb3 _)⟩
end Go.Proofs.YtblnoekogdpolaaDoor
