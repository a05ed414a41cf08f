/-
  The reader: lists and objects: what stands between two rounds.
-/
import Derived.Test.YtcfalgomcdmdhaaDoorJValC
namespace Go.Proofs.YtcfalgomcdmdhaaDoor
open Go.RowKit Go.WideShapes Go.Joins

theorem moreB_suf (e n : Nat) : ∀ l v r, moreB e n l = .ok v r → ∃ a, l = a ++ r := by
  intro l v r h
  unfold moreB at h
  cases l with
  | nil =>
    simp only [J.sw] at h
    split at h
    · cases h; exact ⟨[], rfl⟩
    · cases h
  | cons c l =>
    simp only [J.sw] at h
    by_cases h1 : c = e
    · simp only [h1, if_true, J.Rd.pure] at h
      cases h; exact ⟨[e], by rw [h1]; rfl⟩
    · simp only [h1, if_false] at h
      by_cases h2 : n = 0
      · simp only [h2, if_true, J.Rd.pure] at h
        cases h; exact ⟨[], rfl⟩
      · simp only [h2, if_false] at h
        by_cases h3 : c = 44
        · simp only [h3, if_true] at h
          by_cases h4 : n = 1024
          · simp only [h4, if_true] at h; cases h
          · simp only [h4, if_false, J.Rd.pure] at h
            cases h; exact ⟨[44], by rw [h3]; rfl⟩
        · simp only [h3, if_false] at h; cases h
theorem moreR_suf (e n : Nat) : ∀ l v r, moreR e n l = .ok v r → ∃ a, l = a ++ r := by
  intro l v r h
  rw [moreR_at] at h
  obtain ⟨a, ha⟩ := moreB_suf e n _ _ _ h
  exact ⟨l.takeWhile J.isBlank ++ a, by rw [List.append_assoc, ← ha, List.takeWhile_append_dropWhile]⟩
/-- a list that is full goes no further -/
theorem more_top (e : Nat) {σ : RS} (ho : σ.ok) : ∀ v, (goR (moreR e 1024) σ).2 = some v → v = false := by
  intro v hv
  rw [moreR_is] at hv
  have h1 : (goR J.blanks σ).1.ok := goR_ok blanks_errs ho
  generalize (goR J.blanks σ).1 = σ1 at hv h1
  cases σ1 with
  | dead s x => cases hv
  | live s i =>
    by_cases hi : i < s.size
    · rw [moreB_live e 1024 s i hi] at hv
      split at hv
      · cases hv; rfl
      · simp only [show ¬ (1024 = 0) by decide, if_false, if_true] at hv
        split at hv <;> cases hv
    · have hb : goR (moreB e 1024) (.live s i) = (.dead s 160, none) := goR_end _ hi
      rw [hb] at hv; cases hv
theorem nmR_good (F : Nat) (obj : Bool) (ns : List (List Nat)) : ∀ l v r, nmR F obj ns l = .ok v r → ∃ a, l = a ++ r := by
  cases obj with
  | true => rw [nmR_obj]; exact (J.Good.then J.Good.blanks fun _ => J.Good.nameR F true ns).okS
  | false => intro l v r h; cases h; exact ⟨[], rfl⟩
def bodyR (F : Nat) (f : J.Rd J.JV) (obj : Bool) (k : Nat) (ns : List (List Nat)) (vs : List J.JV) : J.Rd (List (List Nat) × List J.JV) :=
  (nmR F obj ns).then fun ns' => f.then fun v => loopR F f obj k ns' (vs ++ [v])
/-- behind the question whether it goes on -/
theorem loop_more {F k : Nat} {f : J.Rd J.JV} {obj : Bool} {ns : List (List Nat)} {vs : List J.JV} {σ : RS} {B : Bool} (hB : ∀ v, (goR (moreR (J.fin obj) vs.length) σ).2 = some v → B = v) :
    goR (loopR F f obj (k + 1) ns vs) σ = goR (if B then bodyR F f obj k ns vs else J.Rd.pure (ns, vs)) (goR (moreR (J.fin obj) vs.length) σ).1 :=
  goR_thenV' (q := fun b : Bool => if b then bodyR F f obj k ns vs else J.Rd.pure (ns, vs)) (moreR_suf _ _) (fun v hv => (hB v hv).symm)
theorem body_list {F k : Nat} {f : J.Rd J.JV} {ns : List (List Nat)} {vs : List J.JV} {σ : RS} {V : J.JV} (hf : J.Good f) (hV : ∀ v, (goR f σ).2 = some v → V = v) :
    goR (bodyR F f false k ns vs) σ = goR (loopR F f false k ns (vs ++ [V])) (goR f σ).1 := by
  unfold bodyR
  rw [nmR_list, pure_then]
  exact goR_thenV' (q := fun v => loopR F f false k ns (vs ++ [v])) hf.okS (fun v hv => (hV v hv).symm)
theorem body_obj {F k : Nat} {f : J.Rd J.JV} {ns : List (List Nat)} {vs : List J.JV} {σ : RS} {N : List Nat} (hN : ∀ v, (goR (nameG F ns) σ).2 = some v → N = v) (hs : ∀ l v r, nameG F ns l = .ok v r → ∃ a, l = a ++ r) :
    goR (bodyR F f true k ns vs) σ = goR (f.then fun v => loopR F f true k (ns ++ [N]) (vs ++ [v])) (goR (nameG F ns) σ).1 := by
  unfold bodyR nmR
  rw [if_pos rfl, then_assoc]
  have := goR_thenV' (q := fun s => (J.Rd.pure (ns ++ [s])).then fun ns' => f.then fun v => loopR F f true k ns' (vs ++ [v])) hs (V := N) (fun v hv => (hN v hv).symm) (σ := σ)
  rw [this, pure_then]
theorem nameG_suf (F : Nat) (ns : List (List Nat)) : ∀ l v r, nameG F ns l = .ok v r → ∃ a, l = a ++ r := by
  intro l v r h
  have h2 : nmR F true ns l = .ok (ns ++ [v]) r := by
    unfold nmR
    simp only [if_true, J.Rd.then, h]; rfl
  exact nmR_good F true ns l _ r h2
/-- a bracket that stands there, as the program goes about it -/
theorem bracket_go {F : Nat} (hF : 20000 ≤ F) {obj : Bool} {g : Option (J.Rd J.JV)} {f : J.Rd J.JV} {s : ByteArray} {i : Nat} {D : Int} (hi : i < s.size) (hs : s.size ≤ 16384) (hp : (numsOf s).getD i 0 = if obj then 123 else 91)
    (hg : (32 < D → g = none) ∧ (¬ 32 < D → ∃ d, g = some f ∧ f = J.value F d)) :
    (goR (J.valueB F g) (.live s i)).1 = (goR (loopR F f obj (F + 1) [] []) (if 32 < D then .dead (cutS s i) 161 else .live s (i + 1))).1 ∧
    ∀ v, (goR (J.valueB F g) (.live s i)).2 = some v → ∃ p, (goR (loopR F f obj (F + 1) [] []) (if 32 < D then .dead (cutS s i) 161 else .live s (i + 1))).2 = some p ∧ v = J.groupV obj p := by
  by_cases hD : 32 < D
  · rw [if_pos hD, hg.1 hD]
    have e : goR (J.valueB F none) (.live s i) = (.dead (cutS s i) 161, none) := by
      unfold J.valueB
      rw [goR_sw _ _ hi, hp]
      cases obj <;> rfl
    rw [e, goR_dead]
    exact ⟨rfl, fun v hv => by cases hv⟩
  · rw [if_neg hD]
    obtain ⟨d, hg1, hf⟩ := hg.2 hD
    have e : goR (J.valueB F g) (.live s i) = goR (J.group F f obj) (.live s (i + 1)) := by
      rw [hg1]
      unfold J.valueB
      rw [goR_sw _ _ hi, hp]
      cases obj <;> rfl
    rw [e]
    subst hf
    have hl : ((numsOf s).drop (i + 1)).length < F := by rw [rest_len]; omega
    have ho := J.group_fed (F := F) (f := J.value F d) (J.Good.value (by omega) d) (fun l hl => J.value_fed d l hl) obj _ hl
    have hgl := group_loop F d (by omega) obj _ ho
    simp only [goR]
    rw [← hgl]
    simp only [J.Rd.then]
    cases loopR F (J.value F d) obj (F + 1) [] [] ((numsOf s).drop (i + 1)) with
    | ok p r => exact ⟨rfl, fun v hv => by cases hv; exact ⟨p, rfl, rfl⟩⟩
    | bad e r => exact ⟨rfl, fun v hv => by cases hv⟩
    | out => exact ⟨rfl, fun v hv => by cases hv⟩
def kindG (obj : Bool) : Nat := if obj then 6 else 5
/-- Between two items. -/
structure GrpI (F : Nat) (f : J.Rd J.JV) (obj : Bool) (T : RS × Option (List (List Nat) × List J.JV)) (b pr pv : Nat) (w : World) (σ : RS) (As : List (Array Value)) (Js : List JB) (ss : List ByteArray) (nv iv : Value) (wr : World) : Prop where
  r : RIn wr b σ
  env : Env wr b pr pv
  g : w.grownBy wr (some b)
  box : wr.heap[w.heap.size]? = some (.cells #[.int .u8 (kindG obj : Int), .bool false, .int .i64 0, .string ⟨#[]⟩, nv, iv] 25 (0, 0))
  nm : NmOwn wr (w.heap.size + 1) nv ss
  it : ItOwn wr (w.heap.size + 1) iv As
  its : ItsIn wr (fun k => w.heap.size < k ∧ some k ≠ nv.ownBlock ∧ some k ≠ iv.ownBlock) As Js
  ne : nv.ownBlock = none ∨ nv.ownBlock ≠ iv.ownBlock
  t : goR (loopR F f obj (F + 1 - Js.length) (ss.map numsOf) (toJs Js)) σ = T
  n : Js.length ≤ 1024
  s : ss.length = if obj then Js.length else 0
/-- a row of one's own lies behind the box -/
theorem own_ge {w : World} {base n : Nat} {e : TypeId} {s : Nat} {v : Value} {xs : List Value} (h : w.ownsRow base e s v n xs) {k : Nat} (hk : v.ownBlock = some k) : base ≤ k ∧ k < w.heap.size := h.lt k hk
/-- where the reader alone goes on -/
theorem GrpI.goes {F : Nat} {f : J.Rd J.JV} {obj : Bool} {T : RS × Option (List (List Nat) × List J.JV)} {b pr pv : Nat} {w wr w' : World} {σ : RS} {As : List (Array Value)} {Js : List JB} {ss : List ByteArray} {nv iv : Value}
    (h : GrpI F f obj T b pr pv w σ As Js ss nv iv wr) (hb : b < w.heap.size) (hg : wr.grownBy w' (some b)) :
    Env w' b pr pv ∧ w.grownBy w' (some b) ∧ w'.heap[w.heap.size]? = some (.cells #[.int .u8 (kindG obj : Int), .bool false, .int .i64 0, .string ⟨#[]⟩, nv, iv] 25 (0, 0)) ∧
    NmOwn w' (w.heap.size + 1) nv ss ∧ ItOwn w' (w.heap.size + 1) iv As ∧ ItsIn w' (fun k => w.heap.size < k ∧ some k ≠ nv.ownBlock ∧ some k ≠ iv.ownBlock) As Js := by
  have h8 := h.env.h8
  have hlt := h.r.lt
  have hne : ∀ {base n : Nat} {e : TypeId} {s : Nat} {v : Value} {xs : List Value}, wr.ownsRow base e s v n xs → w.heap.size + 1 ≤ base → v.ownBlock = none ∨ v.ownBlock ≠ some b := by
    intro base n e s v xs hv hbase
    refine .inr fun he => ?_
    have := (own_ge hv he).1
    omega
  exact ⟨h.env.grown hg (by omega), grown_trans h.g hg, box_grown h.box hg (by omega), h.nm.kept hg (hne h.nm (Nat.le_refl _)), h.it.kept hg (hne h.it.own (Nat.le_refl _)), h.its.kept hg (fun k hk he => by cases he; omega)⟩
/-- the first time -/
theorem GrpI.start {F : Nat} {f : J.Rd J.JV} {obj : Bool} {b pr pv : Nat} {w wr : World} {σ : RS} (hr : RIn wr b σ) (hE : Env wr b pr pv) (hg : w.grownBy wr (some b))
    (hx : wr.heap[w.heap.size]? = some (.cells #[.int .u8 (kindG obj : Int), .bool false, .int .i64 0, .string ⟨#[]⟩, .slice none 0 0, .slice none 0 0] 25 (0, 0))) :
    GrpI F f obj (goR (loopR F f obj (F + 1) [] []) σ) b pr pv w σ [] [] [] (.slice none 0 0) (.slice none 0 0) wr :=
  ⟨hr, hE, hg, hx, nm_nil _ _, it_nil _ _, its_nil _ _, .inl rfl, rfl, by simp, by cases obj <;> rfl⟩
/-- where it ends -/
theorem GrpI.over {F : Nat} {f : J.Rd J.JV} {obj : Bool} {T : RS × Option (List (List Nat) × List J.JV)} {b pr pv : Nat} {w wr w' : World} {σ : RS} {As : List (Array Value)} {Js : List JB} {ss : List ByteArray} {nv iv : Value}
    (hF : 20000 ≤ F) (h : GrpI F f obj T b pr pv w σ As Js ss nv iv wr) (hB : ∀ v, (goR (moreR (J.fin obj) Js.length) σ).2 = some v → false = v) (hr : RIn w' b (goR (moreR (J.fin obj) Js.length) σ).1) :
    RIn w' b T.1 ∧ ∀ p, T.2 = some p → p = (ss.map numsOf, toJs Js) := by
  have hn := h.n
  have ht := h.t
  rw [show F + 1 - Js.length = (F - Js.length) + 1 by omega] at ht
  have hlen : (toJs Js).length = Js.length := toJs_len Js
  have e := loop_more (F := F) (k := F - Js.length) (f := f) (obj := obj) (ns := ss.map numsOf) (vs := toJs Js) (σ := σ) (B := false) (by rw [hlen]; exact hB)
  rw [ht, hlen, if_neg (by decide)] at e
  have hp := goR_pureV (ss.map numsOf, toJs Js) hr.ok
  rw [e, hp.1]
  exact ⟨hr, fun p h => hp.2 p h⟩
/-- where it goes on -/
theorem GrpI.on {F : Nat} {f : J.Rd J.JV} {obj : Bool} {T : RS × Option (List (List Nat) × List J.JV)} {b pr pv : Nat} {w wr : World} {σ : RS} {As : List (Array Value)} {Js : List JB} {ss : List ByteArray} {nv iv : Value}
    (hF : 20000 ≤ F) (h : GrpI F f obj T b pr pv w σ As Js ss nv iv wr) (hB : ∀ v, (goR (moreR (J.fin obj) Js.length) σ).2 = some v → true = v) (hN : (goR (moreR (J.fin obj) Js.length) σ).2 = none → true = decide (Js.length = 0)) :
    T = goR (bodyR F f obj (F - Js.length) (ss.map numsOf) (toJs Js)) (goR (moreR (J.fin obj) Js.length) σ).1 ∧ Js.length < 1024 := by
  have hn := h.n
  have ht := h.t
  rw [show F + 1 - Js.length = (F - Js.length) + 1 by omega] at ht
  have hlen : (toJs Js).length = Js.length := toJs_len Js
  have e := loop_more (F := F) (k := F - Js.length) (f := f) (obj := obj) (ns := ss.map numsOf) (vs := toJs Js) (σ := σ) (B := true) (by rw [hlen]; exact hB)
  rw [ht, hlen, if_pos rfl] at e
  refine ⟨e, ?_⟩
  by_cases h4 : Js.length = 1024
  · exfalso
    rw [h4] at hB hN
    cases ho : (goR (moreR (J.fin obj) 1024) σ).2 with
    | none => have := hN ho; simp at this
    | some v =>
      have h1 := hB v ho
      have h2 := more_top (J.fin obj) h.r.ok v ho
      rw [← h1] at h2; cases h2
  · omega
end Go.Proofs.YtcfalgomcdmdhaaDoor
