import Derived.Shelf.Slices.Turned
import Derived.Shelf.Slices.Equal
import Derived.Shelf.Slices.Empties2
import Derived.Shelf.Slices.Clone
import Derived.Shelf.Small.Wraps
import Derived.Shelf.Strconv.Itoa4
import Derived.Ground.NamesProg
import Derived.Test.YtblnoekogdpolaaDoorProg
import Derived.Test.YtblnoekogdpolaaDoorJWit
import Derived.Test.YtblnoekogdpolaaDoorJNum
import Derived.Test.YtblnoekogdpolaaDoorXShelfP
import Derived.Laws.ResultCell
namespace Go.Proofs.YtblnoekogdpolaaDoor
open Go.Shelf
def lays110_ren : Go.Shelf.Ren := ⟨fun | 110 => 85 | 109 => 47 | n => n, fun | 31 => 22 | 9 => 9 | 4 => 4 | 3 => 3 | 0 => 0 | n => n, fun | n => n⟩
def lays193_ren : Go.Shelf.Ren := ⟨fun | 193 => 36 | n => n, fun | 31 => 22 | 9 => 9 | 4 => 4 | 3 => 3 | 0 => 0 | n => n, fun | n => n⟩
theorem lays193 : Go.Proofs.Lays.n193 Tryd.prog lays193_ren := {
  mixed := by kernel_rfl
  f193 := Tryd.func36.trans (congrArg some (by kernel_rfl))
  t0 := Tryd.underlying0
  a0 := Tryd.isAgg0
  z0 := Tryd.sizeOf0
  v0 := Tryd.zeroValue0
  t3 := Tryd.underlying3
  a3 := Tryd.isAgg3
  z3 := Tryd.sizeOf3
  v3 := Tryd.zeroValue3
  t4 := Tryd.underlying4
  a4 := Tryd.isAgg4
  z4 := Tryd.sizeOf4
  v4 := Tryd.zeroValue4
  t9 := Tryd.underlying9
  a9 := Tryd.isAgg9
  z9 := Tryd.sizeOf9
  v9 := Tryd.zeroValue9
  t31 := Tryd.underlying22
  a31 := Tryd.isAgg22
  z31 := Tryd.sizeOf22
  v31 := Tryd.zeroValue22 }
def lays121_ren : Go.Shelf.Ren := ⟨fun | 121 => 64 | 214 => 89 | n => n, fun | 4 => 4 | 9 => 9 | n => n, fun | n => n⟩
theorem lays121 : Go.Proofs.Lays.n121 Tryd.prog lays121_ren := {
  mixed := by kernel_rfl
  f121 := Tryd.func64.trans (congrArg some (by kernel_rfl))
  f214 := Tryd.func89.trans (congrArg some (by kernel_rfl))
  t4 := Tryd.underlying4
  a4 := Tryd.isAgg4
  z4 := Tryd.sizeOf4
  v4 := Tryd.zeroValue4
  t9 := Tryd.underlying9
  a9 := Tryd.isAgg9
  z9 := Tryd.sizeOf9
  v9 := Tryd.zeroValue9 }
def lays173_ren : Go.Shelf.Ren := ⟨fun | 173 => 65 | 246 => 90 | 283 => 109 | 284 => 110 | 285 => 111 | 286 => 112 | 129 => 127 | 317 => 126 | 318 => 128 | 319 => 129 | 320 => 130 | 337 => 139 | 338 => 140 | n => n, fun | 2 => 2 | 3 => 3 | 9 => 9 | 4 => 4 | 171 => 127 | 0 => 0 | 53 => 128 | 37 => 62 | 5 => 5 | 173 => 131 | 212 => 147 | 51 => 148 | 20 => 20 | 213 => 149 | 46 => 117 | 232 => 161 | 233 => 162 | n => n, fun | 17 => 2 | 18 => 6 | 19 => 7 | n => n⟩
theorem lays173 : Go.Proofs.LaysM.n173 Tryd.prog lays173_ren := {
  mixed := by kernel_rfl
  f129 := Tryd.func127.trans (congrArg some (by kernel_rfl))
  f173 := Tryd.func65.trans (congrArg some (by kernel_rfl))
  f246 := Tryd.func90.trans (congrArg some (by kernel_rfl))
  f283 := Tryd.func109.trans (congrArg some (by kernel_rfl))
  f284 := Tryd.func110.trans (congrArg some (by kernel_rfl))
  f285 := Tryd.func111.trans (congrArg some (by kernel_rfl))
  f286 := Tryd.func112.trans (congrArg some (by kernel_rfl))
  f317 := Tryd.func126.trans (congrArg some (by kernel_rfl))
  f318 := Tryd.func128.trans (congrArg some (by kernel_rfl))
  f319 := Tryd.func129.trans (congrArg some (by kernel_rfl))
  f320 := Tryd.func130.trans (congrArg some (by kernel_rfl))
  f337 := Tryd.func139.trans (congrArg some (by kernel_rfl))
  f338 := Tryd.func140.trans (congrArg some (by kernel_rfl))
  t0 := Tryd.underlying0
  a0 := Tryd.isAgg0
  z0 := Tryd.sizeOf0
  v0 := Tryd.zeroValue0
  t2 := Tryd.underlying2
  a2 := Tryd.isAgg2
  z2 := Tryd.sizeOf2
  v2 := Tryd.zeroValue2
  t3 := Tryd.underlying3
  a3 := Tryd.isAgg3
  z3 := Tryd.sizeOf3
  v3 := Tryd.zeroValue3
  t4 := Tryd.underlying4
  a4 := Tryd.isAgg4
  z4 := Tryd.sizeOf4
  v4 := Tryd.zeroValue4
  t5 := Tryd.underlying5
  a5 := Tryd.isAgg5
  z5 := Tryd.sizeOf5
  v5 := Tryd.zeroValue5
  t9 := Tryd.underlying9
  a9 := Tryd.isAgg9
  z9 := Tryd.sizeOf9
  v9 := Tryd.zeroValue9
  t20 := Tryd.underlying20
  a20 := Tryd.isAgg20
  z20 := Tryd.sizeOf20
  v20 := Tryd.zeroValue20
  t37 := Tryd.underlying62
  a37 := Tryd.isAgg62
  z37 := Tryd.sizeOf62
  v37 := Tryd.zeroValue62
  t46 := Tryd.underlying117
  a46 := Tryd.isAgg117
  z46 := Tryd.sizeOf117
  v46 := Tryd.zeroValue117
  t51 := Tryd.underlying148
  a51 := Tryd.isAgg148
  z51 := Tryd.sizeOf148
  v51 := Tryd.zeroValue148
  t53 := Tryd.underlying128
  a53 := Tryd.isAgg128
  z53 := Tryd.sizeOf128
  v53 := Tryd.zeroValue128
  t171 := Tryd.underlying127
  a171 := Tryd.isAgg127
  z171 := Tryd.sizeOf127
  v171 := Tryd.zeroValue127
  t173 := Tryd.underlying131
  a173 := Tryd.isAgg131
  z173 := Tryd.sizeOf131
  v173 := Tryd.zeroValue131
  t212 := Tryd.underlying147
  a212 := Tryd.isAgg147
  z212 := Tryd.sizeOf147
  v212 := Tryd.zeroValue147
  t213 := Tryd.underlying149
  a213 := Tryd.isAgg149
  z213 := Tryd.sizeOf149
  t232 := Tryd.underlying161
  a232 := Tryd.isAgg161
  z232 := Tryd.sizeOf161
  v232 := Tryd.zeroValue161
  t233 := Tryd.underlying162
  a233 := Tryd.isAgg162
  z233 := Tryd.sizeOf162
  v233 := Tryd.zeroValue162
  g17 := by kernel_rfl
  g18 := by kernel_rfl
  g19 := by kernel_rfl
  i0 := by kernel_rfl
  i2 := by kernel_rfl
  i3 := by kernel_rfl
  i4 := by kernel_rfl
  i5 := by kernel_rfl
  i9 := by kernel_rfl
  i20 := by kernel_rfl
  i37 := by kernel_rfl
  i46 := by kernel_rfl
  i51 := by kernel_rfl
  i53 := by kernel_rfl
  i171 := by kernel_rfl
  i173 := by kernel_rfl
  i212 := by kernel_rfl
  i232 := by kernel_rfl
  i233 := by kernel_rfl
  m17 := by kernel_rfl
  m18 := by kernel_rfl
  m19 := by kernel_rfl }
end Go.Proofs.YtblnoekogdpolaaDoor
namespace Go.Proofs.YtblnoekogdpolaaDoor
open Go.RowKit Go.WideShapes Go.Joins
theorem size_json : (Tryd.prog.info? 25).map (fun x => x.size) = some 6 := by kernel_rfl
def flatA (k : Nat) (b : Bool) (n : Int) (t : ByteArray) : Array Value := jA k b n t none 0 0 none 0 0
theorem Num_any (n : Int) (w : World) : Calls Tryd.prog 15 #[.int .i64 n] w fun e w' => e = .returned (.agg (flatA 2 false n ByteArray.empty)) ∧ Below w.heap.size w w' := by
  go_enter Tryd.func15, Tryd.ntmps15
  go_wp2
  refine bodyPost_ret (results_cell_row rfl _ _ w.heap.size 25 (flatA 2 false n ByteArray.empty) (0, 0) _ rfl (_root_.Go.heap_alloc_new _ _) Tryd.underlying25 rfl size_json) rfl ⟨rfl, (Below.refl _ _).alloc (Nat.le_refl _) _⟩
theorem parseInt_any (s : ByteArray) (hs : s.size ≤ 20000) (w : World) (hL : Laid w) :
    Calls Tryd.prog 87 #[.string s, .int .i64 10, .int .i64 64] w fun e w' => ∃ (n : Int) (E : Value), e = .returned (.tuple #[.int .i64 n, E]) ∧ Below w.heap.size w w' ∧
      ((E = .nilIface ∧ Lib.parseIntB 64 s.data.toList = .ok n) ∨ ((∃ tp a, E = .iface tp (.pointer (some a))) ∧ ∀ v, Lib.parseIntB 64 s.data.toList ≠ .ok v)) := by
  cases h : Lib.parseIntB 64 s.data.toList with
  | ok v =>
    refine (Any.strconv_ParseInt_10_at64_ok lays174 s (by omega) v h w).mono ?_
    rintro e w' ⟨rfl, hw⟩
    refine ⟨v, _, rfl, ?_, .inl ⟨rfl, rfl⟩⟩
    rcases hw with rfl | ⟨t, rfl⟩
    · exact Below.refl _ _
    · exact below_bytesWorld _ _ _ _ (Nat.le_refl _)
  | «syntax» =>
    obtain ⟨tp, p, hv⟩ := hL.syn
    refine (Any.strconv_ParseInt_10_at64_syntax_var lays174 s (by omega) h tp p w hv).mono ?_
    rintro e w' ⟨N, rfl, _, _, hb⟩
    exact ⟨_, _, rfl, hb, .inr ⟨⟨_, _, rfl⟩, fun v hv => by cases hv⟩⟩
  | range =>
    obtain ⟨tp, p, hv⟩ := hL.rng
    refine (Any.strconv_ParseInt_10_at64_range_var lays174 s (by omega) h tp p w hv).mono ?_
    rintro e w' ⟨N, rfl, _, _, hb⟩
    exact ⟨_, _, rfl, hb, .inr ⟨⟨_, _, rfl⟩, fun v hv => by cases hv⟩⟩
theorem skip_dead (s : ByteArray) (e : Nat) (t : ByteArray) : (RS.dead s e).skip t = .dead s e := by unfold RS.skip; rw [has_dead]; rfl
theorem skip_yes {σ : RS} {t : ByteArray} (h : σ.has t = true) : σ.skip t = σ.next := by unfold RS.skip; rw [if_pos h]
theorem skip_no {σ : RS} {t : ByteArray} (h : σ.has t = false) : σ.skip t = σ := by unfold RS.skip; rw [h]; rfl
theorem may_go {α : Type} (x : Nat) (hx : x < 256) (q : Bool → J.Rd α) (σ : RS) (ho : σ.ok) : goR ((J.may x).then q) σ = goR (q (σ.has (oneS x))) (σ.skip (oneS x)) := by
  cases σ with
  | dead s e => rw [skip_dead]; rfl
  | live s i =>
    have h := has_iff s i (oneS x)
    rw [oneS_nums hx, List.mem_singleton] at h
    by_cases hi : i < s.size
    · by_cases hd : (numsOf s).getD i 0 = x
      · have hh := h.2 ⟨hi, hd⟩
        have hn : goR (J.may x) (.live s i) = (.live s (i + 1), some true) := by
          unfold J.may
          rw [goR_sw _ _ hi]
          simp only [hd, if_true]
          exact goR_pure _ (by omega)
        rw [goR_some (J.Good.may x) hn, hh, skip_yes hh]; rfl
      · have hh : (RS.live s i).has (oneS x) = false := by
          cases hq : (RS.live s i).has (oneS x) with
          | false => rfl
          | true => exact absurd (h.1 hq).2 hd
        have hn : goR (J.may x) (.live s i) = (.live s i, some false) := by
          unfold J.may
          rw [goR_sw _ _ hi]
          simp only [hd, if_false]
          exact goR_pure _ (by omega)
        rw [goR_some (J.Good.may x) hn, hh, skip_no hh]
    · have hh : (RS.live s i).has (oneS x) = false := by
        cases hq : (RS.live s i).has (oneS x) with
        | false => rfl
        | true => exact absurd (h.1 hq).1 hi
      have hn : goR (J.may x) (.live s i) = (.live s i, some false) := goR_endo _ _ hi ho
      rw [goR_some (J.Good.may x) hn, hh, skip_no hh]
theorem skip_ok {σ : RS} (t : ByteArray) (h : σ.ok) : (σ.skip t).ok := by
  cases hh : σ.has t with
  | false => rw [skip_no hh]; exact h
  | true =>
    rw [skip_yes hh]
    cases σ with
    | dead s e => rw [has_dead] at hh; cases hh
    | live s i =>
      have := ((has_iff s i t).1 hh).1
      show i + 1 ≤ s.size
      omega
def twoS (x y : Nat) : ByteArray := strOf [x, y]
theorem may_two {α : Type} (x y : Nat) (hx : x < 256) (hy : y < 256) (q : Bool → J.Rd α) (σ : RS) (ho : σ.ok) :
    goR ((J.may x).then fun e => (if e then J.Rd.pure true else J.may y).then q) σ = goR (q (σ.has (twoS x y))) (σ.skip (twoS x y)) := by
  have hm : ∀ s i, (RS.live s i).has (twoS x y) = true ↔ (i < s.size ∧ ((numsOf s).getD i 0 = x ∨ (numsOf s).getD i 0 = y)) := by
    intro s i
    have := has_iff s i (twoS x y)
    rw [show numsOf (twoS x y) = [x, y] from nums_strOf (by intro c hc; simp at hc; omega)] at this
    simpa using this
  rw [may_go x hx _ σ ho]
  cases σ with
  | dead s e => simp only [skip_dead]; rfl
  | live s i =>
    have h1 := has_iff s i (oneS x)
    rw [oneS_nums hx, List.mem_singleton] at h1
    cases hh : (RS.live s i).has (oneS x) with
    | true =>
      have h2 := (hm s i).2 ⟨(h1.1 hh).1, .inl (h1.1 hh).2⟩
      rw [skip_yes hh, h2, skip_yes h2]
      simp only [if_true]
      rw [pure_then]
    | false =>
      rw [skip_no hh]
      simp only [Bool.false_eq_true, if_false]
      rw [may_go y hy _ _ ho]
      have h3 := has_iff s i (oneS y)
      rw [oneS_nums hy, List.mem_singleton] at h3
      cases hk : (RS.live s i).has (oneS y) with
      | true =>
        have h2 := (hm s i).2 ⟨(h3.1 hk).1, .inr (h3.1 hk).2⟩
        rw [h2, skip_yes h2, skip_yes hk]
      | false =>
        have h2 : (RS.live s i).has (twoS x y) = false := by
          cases hq : (RS.live s i).has (twoS x y) with
          | false => rfl
          | true =>
            obtain ⟨a, b⟩ := (hm s i).1 hq
            rcases b with b | b
            · rw [h1.2 ⟨a, b⟩] at hh; cases hh
            · rw [h3.2 ⟨a, b⟩] at hk; cases hk
        rw [h2, skip_no h2, skip_no hk]
theorem goR_mono {α : Type} {p : J.Rd α} (hp : J.Good p) (σ : RS) (ho : σ.ok) : σ.i ≤ (goR p σ).1.i := by
  cases σ with
  | dead s e => exact Nat.le_refl _
  | live s i =>
    simp only [goR]
    cases hv : p ((numsOf s).drop i) with
    | ok x r =>
      obtain ⟨a, ha⟩ := hp.okS _ _ _ hv
      have hl := congrArg List.length ha
      rw [rest_len, List.length_append] at hl
      simp only [RS.ok] at ho
      simp only [RS.i]; omega
    | bad e r =>
      obtain ⟨a, ha⟩ := hp.badS _ _ _ hv
      have hl := congrArg List.length ha
      rw [rest_len, List.length_append] at hl
      simp only [RS.ok] at ho
      simp only [RS.i]
      rw [cutS_size s (by omega)]; omega
    | out => simp only [RS.i]; exact ho
end Go.Proofs.YtblnoekogdpolaaDoor
