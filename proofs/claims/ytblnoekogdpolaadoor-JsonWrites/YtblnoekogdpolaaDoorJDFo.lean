import Derived.Test.YtblnoekogdpolaaDoorJDNu
import Derived.Lib.AppendStr
import Derived.Test.YtblnoekogdpolaaDoorJDWd
import Derived.Test.YtblnoekogdpolaaDoorJDCh
import Derived.Deep.RegionLaw
import Derived.Test.YtblnoekogdpolaaDoorJChk
namespace Go.Proofs.YtblnoekogdpolaaDoor
open Go.RowKit Go.WideShapes Go.Joins
structure U8P (ys : List Nat) (w : World) (e : Ending) (w' : World) : Prop where
  ex : ∃ (p : Option Addr) (m c : Nat), e = .returned (.slice p m c) ∧ m = ys.length ∧ BIn w' p ys ∧ (p = none → c = 0) ∧ Below w.heap.size w w'
theorem u8_laid {w : World} {ys : List Nat} (h : ∀ c ∈ ys, c < 256) : BIn (w.alloc (.cells (Bs ys).toArray 5)) (some ⟨w.heap.size, 0, none⟩) ys := by
  refine ⟨fun hp => ⟨w.heap.size, 0, rfl, fun i hi => ?_⟩, h⟩
  have hb := _root_.Go.heap_alloc_new w (.cells (Bs ys).toArray 5)
  rw [cell_of_block hb]
  simp [Bs, List.getD, List.getElem?_eq_getElem hi]
theorem info5j : (Tryd.prog.info? 5).map (fun i => (i.zero, i.size, i.bytes)) = some (some (.int .u8 0), 1, 1) := by kernel_rfl
theorem wpList_append_bytesj (w : World) {ops : Array Oper} {rest : List Oper} {o : Oper} {a : Act} {Q : Exit → Act → World → Prop} (hgd : o.guard = none) (s x : Operand)
    (ho : o.op = .call { callee := .builtin .append, args := #[s, x], argTypes := #[62, 62] }) (base : Nat) (v : Value) (xs ys : List Nat) (p : Option Addr) (m c : Nat) (hs : a.eval s = v) (hx : a.eval x = .slice p m c) (hm : m = ys.length)
    (hown : w.ownsRow base 5 1 v xs.length (Bs xs)) (hin : BIn w p ys) (hp : p = none → c = 0) (hlen : xs.length + ys.length ≤ 140737488355328) (hbase : base ≤ w.heap.size)
    (h : ∀ v' w', w'.ownsRow base 5 1 v' (xs ++ ys).length (Bs (xs ++ ys)) → w.grownBy w' v.ownBlock → wpList Tryd.prog ops Q rest (a.put o.dst v') w') : wpList Tryd.prog ops Q (o :: rest) a w := by
  subst hm
  obtain ⟨i0, hi, hz0, hz1, hz2⟩ := info_parts info5j
  refine wpList_plain hgd fun K hK => ?_
  obtain ⟨v', w', hr, h2, h3⟩ := run_append_row (P := Tryd.prog) (w := w) Tryd.underlying62 hi hz0 hz1 hz2 base o.type v xs ys p c hown hin hp hlen hbase
  unfold Oper.wp execOp
  simp only [ho, resolve, invoke, builtin, Sem.run_bind, Sem.run_pure, Result.andThen_ok, List.map_toArray, List.map_cons, List.map_nil, hs, hx, hr]
  exact hK _ _ (h v' w' h2 h3)
end Go.Proofs.YtblnoekogdpolaaDoor
namespace Go.Proofs.YtblnoekogdpolaaDoor
open Go.RowKit Go.WideShapes Go.Joins
theorem char_adv {s : ByteArray} {i j : Nat} (h : (goR J.char (.live s i)).1 = .live s j) : i + 1 ≤ j ∧ j ≤ s.size := by
  simp only [goR] at h
  cases hv : J.char ((numsOf s).drop i) with
  | ok v r =>
    rw [hv] at h
    simp only [RS.live.injEq, true_and] at h
    unfold J.char at hv
    obtain ⟨c, m, h1, h2⟩ := J.then_ok hv
    have g1 := (J.Good.need 194 244)
    obtain ⟨a, ha⟩ := g1.okS _ _ _ h1
    have hne : a ≠ [] := by
      intro e
      subst e
      simp only [List.nil_append] at ha
      rw [ha] at h1
      cases m with
      | nil => simp [J.need, J.sw] at h1
      | cons d m =>
        simp only [J.need, J.sw] at h1
        by_cases hd : 194 ≤ d ∧ d ≤ 244
        · simp only [hd, and_self, if_true, J.Rd.pure, J.Res.ok.injEq] at h1
          have := congrArg List.length h1.2
          simp at this
        · simp only [hd, if_false] at h1; cases h1
    have hr : ∃ x, m = x ++ r := (J.Good.then (J.Good.need _ _) fun _ => J.Good.then (J.Good.iteB (J.Good.need _ _) (J.Good.pure _)) fun _ => J.Good.then (J.Good.iteB (J.Good.need _ _) (J.Good.pure _)) fun _ => J.Good.pure _).okS _ _ _ h2
    obtain ⟨x, rfl⟩ := hr
    have hl := congrArg List.length ha
    rw [rest_len] at hl
    simp only [List.length_append] at hl
    have : 0 < a.length := List.length_pos_iff.2 hne
    omega
  | bad e r => rw [hv] at h; cases h
  | out => rw [hv] at h; cases h
theorem stays {α : Type} (p : J.Rd α) {s : ByteArray} {i : Nat} : (∃ j, (goR p (.live s i)).1 = .live s j) ∨ ∃ t e, (goR p (.live s i)).1 = .dead t e := by
  simp only [goR]
  cases p ((numsOf s).drop i) with
  | ok v r => exact .inl ⟨_, rfl⟩
  | bad e r => exact .inr ⟨_, _, rfl⟩
  | out => exact .inr ⟨_, _, rfl⟩
end Go.Proofs.YtblnoekogdpolaaDoor
namespace Go.Proofs.YtblnoekogdpolaaDoor
open Go.RowKit Go.WideShapes Go.Joins
theorem own_below {w w' : World} {base n : Nat} {v : Value} {xs : List Value} (h : w.ownsRow base 5 1 v n xs) (hb : Below w.heap.size w w') : w'.ownsRow base 5 1 v n xs :=
  h.kept (grown_below hb none) (by cases hv : v.ownBlock with | none => exact .inl rfl | some k => exact .inr (by simp))
end Go.Proofs.YtblnoekogdpolaaDoor
namespace Go.Proofs.YtblnoekogdpolaaDoor
open Go.RowKit Go.WideShapes Go.Joins
def rrbox (s : ByteArray) : Obj := .cells #[.string s, .int .i64 0, .int .i64 0, .int .i64 0, .int .i64 0] 72
end Go.Proofs.YtblnoekogdpolaaDoor
namespace Go.Proofs.YtblnoekogdpolaaDoor
open Go.RowKit Go.WideShapes Go.Joins
def FmAt : RS → Prop
  | .live s i => J.Fm ((numsOf s).drop i)
  | .dead _ _ => False
theorem fmat_low {s : ByteArray} {i : Nat} (hi : i < s.size) (h : (numsOf s).getD i 0 < 128) : FmAt (.live s i) ↔ FmAt (.live s (i + 1)) := by
  unfold FmAt
  simp only []
  rw [rest_cons hi]
  exact ⟨fun x => fm_low x h, fun x => .low _ _ h x⟩
theorem fmat_char {s : ByteArray} {i : Nat} (hi : i < s.size) (h : ¬ (numsOf s).getD i 0 < 128) : FmAt (.live s i) ↔ FmAt (goR J.char (.live s i)).1 := by
  have h' : 128 ≤ (numsOf s).getD i 0 := by omega
  have hr := rest_cons hi
  simp only [goR]
  cases hv : J.char ((numsOf s).drop i) with
  | ok v r =>
    obtain ⟨p, h1, h2, h3, h4⟩ := J.char_ok hv
    have hb := rest_back (s := s) (i := i) h1
    simp only [FmAt]
    rw [hb]
    constructor
    · intro hf
      rw [hr] at hf hv
      obtain ⟨r', e, hs⟩ := fm_char hf h'
      rw [e] at hv
      cases hv
      exact hs
    · intro hf
      rw [h1]
      exact .high p _ h2 h3 h4 hf
  | bad e r =>
    simp only [FmAt, iff_false]
    intro hf
    rw [hr] at hf hv
    obtain ⟨r', e, _⟩ := fm_char hf h'
    rw [e] at hv
    cases hv
  | out =>
    simp only [FmAt, iff_false]
    intro hf
    rw [hr] at hf hv
    obtain ⟨r', e, _⟩ := fm_char hf h'
    rw [e] at hv
    cases hv
theorem fmat_end {s : ByteArray} {i : Nat} (hi : ¬ i < s.size) : FmAt (.live s i) := by
  unfold FmAt
  simp only []
  rw [rest_nil hi]
  exact .nil
theorem char_left {s : ByteArray} {i : Nat} (hi : i < s.size) : (goR J.char (.live s i)).1.left < (RS.live s i).left ∨ ∃ t e, (goR J.char (.live s i)).1 = .dead t e := by
  rcases stays J.char (s := s) (i := i) with ⟨j, hj⟩ | h
  · have := char_adv hj
    rw [hj]
    refine .inl ?_
    simp only [RS.left, RS.s, RS.i]
    omega
  · exact .inr h
inductive DFmI (s : ByteArray) (b : Nat) (w : World) (gk : Nat) (wr : World) : Prop where
  | intro (σ : RS) (hr : DIn wr b s 0 σ) (he : FmAt (.live s 0) ↔ FmAt σ) (hm : (∃ t e, σ = .dead t e) ∨ σ.left < gk) (hg : Below w.heap.size w wr)
theorem tx_bool {s : ByteArray} (hs : s.size ≤ 16384) {B : Bool} (h : B = true ↔ FmAt (.live s 0)) : isTx s = B := by
  have := isTx_iff s
  cases B with
  | true =>
    rw [this]
    exact ⟨hs, h.1 rfl⟩
  | false =>
    cases hv : isTx s with
    | false => rfl
    | true => exact absurd (h.2 ((this.1 hv).2)) (by decide)
set_option maxHeartbeats 2000000 in
set_option maxRecDepth 8000 in
theorem dFormed_any (s : ByteArray) (w : World) : Calls Tryd.prog 46 #[.string s] w fun e w' => e = .returned (.bool (isTx s)) ∧ Below w.heap.size w w' := by
  by_cases hs : 16384 < s.size
  · have e1 : isTx s = false := by unfold isTx; rw [decide_eq_false (by omega), Bool.false_and]
    rw [e1]
    have hq : (16384 : Int) < (s.size : Int) := by omega
    clear hs e1
    go_enter Tryd.func46, Tryd.ntmps46
    go_wp2_with fail
    go_ret
    exact ⟨rfl, Below.refl _ _⟩
  · have hq : ¬ (16384 : Int) < (s.size : Int) := by omega
    have HS : Hid (s.size ≤ 16384) := by show _ ≤ _; omega
    have b1 := below_new w (rrbox s)
    have n1 := _root_.Go.heap_alloc_new w (rrbox s)
    have h1 : DIn (w.alloc (rrbox s)) w.heap.size s 0 (.live s 0) := ⟨Nat.zero_le _, by have := HS.out; omega, by omega, 0, 0, by omega, by omega, n1, (fun s' j e => by cases e; exact ⟨rfl, rfl⟩), (fun s' e e' => by cases e')⟩
    have HI : Hid (DIn (w.alloc (rrbox s)) w.heap.size s 0 (.live s 0) ∧ Below w.heap.size w (w.alloc (rrbox s))) := ⟨h1, b1⟩
    clear hs b1 n1 h1
    unfold rrbox at HI
    go_enter Tryd.func46, Tryd.ntmps46
    go_wp2_with fail
    go_loopg [] (s.size + 1) (fun gk wr => DFmI s w.heap.size w gk wr)
    case atStart => exact ⟨_, HI.out.1, Iff.rfl, .inr (by simp only [RS.left, RS.s, RS.i]; omega), HI.out.2⟩
    case round =>
      clear HI
      obtain ⟨σ, hr, he, hm, hg⟩ := hrel
      cases σ with
      | dead t e =>
        obtain ⟨i8, at8, _, _, hb8, _, hd8⟩ := hr.ex
        have c2 : wr.cell? ⟨w.heap.size, 2, none⟩ = some (.int .i64 (e : Int)) := by rw [cell_of_block hb8]; rfl
        have hne := hr.ok.1
        have k1 : ((e : Int) == 0) = false := by simpa using fun q : (e : Int) = 0 => hne (by omega)
        have E1 : Hid (isTx s = false) := tx_bool (s := s) HS.out (B := false) (by rw [he]; simp [FmAt])
        have HG : Hid (Below w.heap.size w wr) := hg
        clear hr he hm hg hb8 hd8 hne
        go_wp2_with fail
        go_ret
        rw [E1.out]
        exact ⟨rfl, HG.out⟩
      | live s' i =>
        obtain rfl := hr.is
        obtain ⟨i8, at8, _, _, hb8, hl8, _⟩ := hr.ex
        obtain ⟨_, rfl⟩ := hl8 _ _ rfl
        have c1 : wr.cell? ⟨w.heap.size, 1, none⟩ = some (.int .i64 (i8 : Int)) := by rw [cell_of_block hb8]; rfl
        have c2 : wr.cell? ⟨w.heap.size, 2, none⟩ = some (.int .i64 0) := by rw [cell_of_block hb8]; rfl
        have f1 : wr.frozen? ⟨w.heap.size, 1, none⟩ = false := unfrozen_of_block hb8 1
        have hm2 : (RS.live s' i8).left < gk := by
          rcases hm with ⟨t, e, h⟩ | h
          · cases h
          · exact h
        by_cases hi : i8 < s'.size
        · have hiI : (i8 : Int) < (s'.size : Int) := by omega
          have hx := fun w' => str_at s' i8 hi w'
          by_cases hc : (numsOf s').getD i8 0 < 128
          · have hst := hr.step hi
            have hfm := fmat_low hi hc
            obtain ⟨c, hcc⟩ : ∃ c, (numsOf s').getD i8 0 = c := ⟨_, rfl⟩
            rw [hcc] at hx hc
            have hcI : (c : Int) < 128 := by omega
            have HH : Hid (DFmI s' w.heap.size w (gk - 1) (wr.setCell ⟨w.heap.size, 1, none⟩ (.int .i64 ((i8 : Int) + 1))) ∧ 0 < gk) :=
              ⟨⟨_, hst, he.trans hfm, .inr (by simp only [RS.left, RS.s, RS.i] at hm2 ⊢; omega), below_of_grown hg (grown_set _ _ _ _) (Nat.le_refl _)⟩, by omega⟩
            have hi2 : (i8 : Int) < 20001 := by have := HS.out; omega
            have hi0 : (0 : Int) ≤ (i8 : Int) := by omega
            clear hr he hm hg hb8 hl8 hm2 hst hfm hcc hi
            go_wp2_with fail
            go_roundg (gk - 1)
            case measure => have := HH.out.2; omega
            case rel => exact HH.out.1
          · have hfm := fmat_char hi hc
            have hcl := char_left (s := s') hi
            have Ch := dchar_any w.heap.size s' 0 (.live s' i8) wr hr
            obtain ⟨c, hcc⟩ : ∃ c, (numsOf s').getD i8 0 = c := ⟨_, rfl⟩
            rw [hcc] at hx hc
            have hcI : ¬ (c : Int) < 128 := by omega
            obtain ⟨σ2, h2⟩ : ∃ σ2, (goR J.char (.live s' i8)).1 = σ2 := ⟨_, rfl⟩
            rw [h2] at hfm hcl Ch
            have HH : Hid ((∀ w', DIn w' w.heap.size s' 0 σ2 → wr.grownBy w' (some w.heap.size) → DFmI s' w.heap.size w (gk - 1) w') ∧ 0 < gk) :=
              ⟨fun w' hd hg' => ⟨_, hd, he.trans hfm, hcl.elim (fun h => .inr (by omega)) .inl, below_of_grown hg hg' (Nat.le_refl _)⟩, by omega⟩
            unfold rp at Ch
            clear hr he hm hg hb8 hl8 hm2 hfm hcc hcl hi h2
            go_wp2_with fail
            refine Ch.mono ?_
            rintro e w2 ⟨rfl, h2, g2⟩
            have HF : Hid (DFmI s' w.heap.size w (gk - 1) w2) := HH.out.1 w2 h2 g2
            clear Ch h2 g2
            go_wp2_with fail
            go_roundg (gk - 1)
            case measure => have := HH.out.2; omega
            case rel => exact HF.out
        · have hiI : ¬ (i8 : Int) < (s'.size : Int) := by omega
          have E1 : Hid (isTx s' = true) := tx_bool (s := s') HS.out (B := true) (by rw [he]; exact ⟨fun _ => fmat_end hi, fun _ => rfl⟩)
          have HG : Hid (Below w.heap.size w wr) := hg
          clear hr he hm hg hb8 hl8 hm2 hi
          go_wp2_with fail
          go_ret
          rw [E1.out]
          exact ⟨rfl, HG.out⟩
end Go.Proofs.YtblnoekogdpolaaDoor
