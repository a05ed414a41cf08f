import Derived.Test.YtblnoekogdpolaaDoorJCon
import Derived.Test.YtblnoekogdpolaaDoorJNumW
import Derived.Test.YtblnoekogdpolaaDoorHeld
import Derived.Deep.AppendLies
import Derived.Laws.EntriesVeiled
namespace Go.Proofs.YtblnoekogdpolaaDoor
open Go.RowKit Go.WideShapes Go.Joins
def cellsA (As : List (Array Value)) : List Value := As.flatMap Array.toList
theorem cellsA_app (l m : List (Array Value)) : cellsA (l ++ m) = cellsA l ++ cellsA m := by simp [cellsA]
theorem cellsA_at : ∀ {As : List (Array Value)} {i k : Nat}, (∀ A ∈ As, A.size = 6) → i < As.length → k < 6 → (cellsA As)[i * 6 + k]? = (As.getD i #[])[k]?
  | A :: As, 0, k, h, _, hk => by
    have h1 := h A (by simp)
    simp only [cellsA, List.flatMap_cons, Nat.zero_mul, Nat.zero_add, List.getD_cons_zero]
    rw [List.getElem?_append_left (by rw [Array.length_toList, h1]; exact hk), Array.getElem?_toList]
  | A :: As, i + 1, k, h, hi, hk => by
    have h1 := h A (by simp)
    have h2 := cellsA_at (As := As) (i := i) (k := k) (fun B hB => h B (by simp [hB])) (by simpa using hi) hk
    rw [show (i + 1) * 6 + k = A.toList.length + (i * 6 + k) from by rw [Array.length_toList, h1]; omega]
    simp only [cellsA, List.flatMap_cons, List.getD_cons_succ] at h2 ⊢
    rw [List.getElem?_append_right (by omega), Nat.add_sub_cancel_left]
    exact h2
  | [], _, _, _, h, _ => by simp at h
theorem info_json : (Tryd.prog.info? 25).map (fun i => (i.zero, i.size, i.bytes)) = some (some (.agg zeroA), 6, 80) := by kernel_rfl
theorem info_str : (Tryd.prog.info? 9).map (fun i => (i.zero, i.size, i.bytes)) = some (some (.string ⟨#[]⟩), 1, 16) := by kernel_rfl
theorem info_parts' {P : Program} {t : TypeId} {z : Option Value} {s b : Nat} (h : (P.info? t).map (fun i => (i.zero, i.size, i.bytes)) = some (z, s, b)) : ∃ i, P.info? t = some i ∧ i.zero = z ∧ i.size = s ∧ i.bytes = b := by
  cases hi : P.info? t with
  | none => rw [hi] at h; cases h
  | some i => rw [hi] at h; simp at h; exact ⟨i, rfl, h.1, h.2.1, h.2.2⟩
structure ItOwn (w : World) (base : Nat) (v : Value) (As : List (Array Value)) : Prop where
  sz : ∀ A ∈ As, A.size = 6
  own : w.ownsRow base 25 6 v As.length (cellsA As)
def NmOwn (w : World) (base : Nat) (v : Value) (ss : List ByteArray) : Prop := w.ownsRow base 9 1 v ss.length (ss.map Value.string)
theorem it_nil (w : World) (base : Nat) : ItOwn w base (.slice none 0 0) [] := ⟨by simp, World.ownsRow_nil _ _ _ _⟩
theorem nm_nil (w : World) (base : Nat) : NmOwn w base (.slice none 0 0) [] := World.ownsRow_nil _ _ _ _
theorem own_form {w : World} {base n : Nat} {e : TypeId} {s : Nat} {v : Value} {xs : List Value} (h : w.ownsRow base e s v n xs) : ∃ q m, v = .slice q n m ∧ n ≤ m ∧ m ≤ maxLen ∧ (q = none → m = 0) := by
  rcases h.2 with ⟨hv, hn⟩ | ⟨g, cap, cur, hv, _, _, h1, h2, _⟩
  · exact ⟨none, 0, by rw [hv, hn], by omega, by unfold maxLen; omega, fun _ => rfl⟩
  · exact ⟨_, cap, hv, h1, h2, fun h => by cases h⟩
theorem ItOwn.vs {w : World} {base n m : Nat} {q : Option Addr} {As : List (Array Value)} (h : ItOwn w base (.slice q n m) As) : VsIn w (fun k => base ≤ k) q (fun i => As.getD i #[]) As.length := by
  intro hp
  rcases h.own.2 with ⟨_, hn⟩ | ⟨g, cap, cur, hv, hb, hg, hle, hmax, hsz, htk⟩
  · omega
  · simp only [Value.slice.injEq] at hv
    obtain ⟨rfl, rfl, rfl⟩ := hv
    refine ⟨g, 0, rfl, hb, fun i hi k hk => ?_⟩
    rw [show 0 + i * 6 + k = i * 6 + k by omega, World.ownsRow.cellAt h.own _ (by omega), cellsA_at h.sz hi hk]
theorem NmOwn.ss {w : World} {base n m : Nat} {q : Option Addr} {ss : List ByteArray} (h : NmOwn w base (.slice q n m) ss) : SsIn w (fun k => base ≤ k) q ss := by
  intro hp
  rcases h.2 with ⟨_, hn⟩ | ⟨g, cap, cur, hv, hb, hg, hle, hmax, hsz, htk⟩
  · omega
  · simp only [Value.slice.injEq] at hv
    obtain ⟨rfl, rfl, rfl⟩ := hv
    refine ⟨g, 0, rfl, hb, fun i s hi => ?_⟩
    have hlt := (List.getElem?_eq_some_iff.1 hi).1
    rw [Nat.zero_add, World.ownsRow.cellAt h _ (by omega), List.getElem?_map, hi]; rfl
theorem ItOwn.kept {w w' : World} {base : Nat} {v : Value} {As : List (Array Value)} {row : Option Nat} (h : ItOwn w base v As) (hg : w.grownBy w' row) (hne : v.ownBlock = none ∨ v.ownBlock ≠ row) : ItOwn w' base v As := ⟨h.sz, h.own.kept hg hne⟩
theorem NmOwn.kept {w w' : World} {base : Nat} {v : Value} {ss : List ByteArray} {row : Option Nat} (h : NmOwn w base v ss) (hg : w.grownBy w' row) (hne : v.ownBlock = none ∨ v.ownBlock ≠ row) : NmOwn w' base v ss := World.ownsRow.kept h hg hne
theorem jin_one {w : World} {Z : Nat → Prop} {A : Array Value} {x : JB} (h : JIn w Z A x) : ∀ u ∈ A.toList, u.oneCell' = true := by
  cases h
  intro u hu
  simp only [jA, List.mem_cons, List.not_mem_nil, or_false] at hu
  rcases hu with rfl | rfl | rfl | rfl | rfl | rfl <;> rfl
theorem JIn.kept {w w' : World} {Z : Nat → Prop} {A : Array Value} {x : JB} (h : JIn w Z A x) {row : Option Nat} (hg : w.grownBy w' row) (hz : ∀ k, Z k → some k ≠ row) : JIn w' Z A x :=
  h.mono fun a v z hc => ⟨by
    have hlt := World.block_lt_of_cell? _ _ hc
    unfold World.cell? at hc ⊢
    rw [hg.block a.block hlt (hz _ z)]; exact hc, z⟩
def ItsIn (w : World) (Z : Nat → Prop) (As : List (Array Value)) (Js : List JB) : Prop := As.length = Js.length ∧ ∀ (i : Nat) (A : Array Value) (x : JB), As[i]? = some A → Js[i]? = some x → JIn w Z A x
theorem its_nil (w : World) (Z : Nat → Prop) : ItsIn w Z [] [] := ⟨rfl, by intro i A x h; simp at h⟩
theorem ItsIn.kept {w w' : World} {Z : Nat → Prop} {As : List (Array Value)} {Js : List JB} (h : ItsIn w Z As Js) {row : Option Nat} (hg : w.grownBy w' row) (hz : ∀ k, Z k → some k ≠ row) : ItsIn w' Z As Js :=
  ⟨h.1, fun i A x h1 h2 => (h.2 i A x h1 h2).kept hg hz⟩
theorem ItsIn.wk {w : World} {Z Z' : Nat → Prop} {As : List (Array Value)} {Js : List JB} (h : ItsIn w Z As Js) (hz : ∀ k, Z k → k < w.heap.size → Z' k) : ItsIn w Z' As Js :=
  ⟨h.1, fun i A x h1 h2 => (h.2 i A x h1 h2).lt.wk fun k hk => hz k hk.1 hk.2⟩
theorem ItsIn.app {w : World} {Z : Nat → Prop} {As : List (Array Value)} {Js : List JB} {A : Array Value} {x : JB} (h : ItsIn w Z As Js) (hx : JIn w Z A x) : ItsIn w Z (As ++ [A]) (Js ++ [x]) := by
  refine ⟨by simp [h.1], fun i B y h1 h2 => ?_⟩
  by_cases hi : i < As.length
  · rw [List.getElem?_append_left hi] at h1
    rw [List.getElem?_append_left (by rw [← h.1]; exact hi)] at h2
    exact h.2 i B y h1 h2
  · rw [List.getElem?_append_right (by omega)] at h1
    rw [List.getElem?_append_right (by rw [← h.1]; omega), ← h.1] at h2
    have : i - As.length = 0 := by
      rcases Nat.eq_zero_or_pos (i - As.length) with h0 | h0
      · exact h0
      · rw [List.getElem?_eq_none (by simp; omega)] at h1; cases h1
    rw [this] at h1 h2
    simp at h1 h2
    subst h1 h2
    exact hx
end Go.Proofs.YtblnoekogdpolaaDoor
namespace Go.Proofs.YtblnoekogdpolaaDoor
open Go.RowKit Go.WideShapes Go.Joins
theorem row6_cells {w : World} {g : Nat} {a b c d e f : Value} (h : w.heap[g]? = some (.cells #[a, b, c, d, e, f] 25 (0, 0))) :
    (w.cell? ⟨g, 0, none⟩ = some a ∧ w.cell? ⟨g, 1, none⟩ = some b ∧ w.cell? ⟨g, 2, none⟩ = some c ∧ w.cell? ⟨g, 3, none⟩ = some d ∧ w.cell? ⟨g, 4, none⟩ = some e ∧ w.cell? ⟨g, 5, none⟩ = some f) ∧
    w.frozen? ⟨g, 0, none⟩ = false ∧ w.frozen? ⟨g, 1, none⟩ = false ∧ w.frozen? ⟨g, 2, none⟩ = false ∧ w.frozen? ⟨g, 3, none⟩ = false ∧ w.frozen? ⟨g, 4, none⟩ = false ∧ w.frozen? ⟨g, 5, none⟩ = false :=
  ⟨⟨by rw [cell_of_block h]; rfl, by rw [cell_of_block h]; rfl, by rw [cell_of_block h]; rfl, by rw [cell_of_block h]; rfl, by rw [cell_of_block h]; rfl, by rw [cell_of_block h]; rfl⟩,
    unfrozen_of_block h 0, unfrozen_of_block h 1, unfrozen_of_block h 2, unfrozen_of_block h 3, unfrozen_of_block h 4, unfrozen_of_block h 5⟩
end Go.Proofs.YtblnoekogdpolaaDoor
namespace Go.Proofs.YtblnoekogdpolaaDoor
open Go.RowKit Go.WideShapes Go.Joins
theorem own_ge {w : World} {base n : Nat} {e : TypeId} {s : Nat} {v : Value} {xs : List Value} (h : w.ownsRow base e s v n xs) {k : Nat} (hk : v.ownBlock = some k) : base ≤ k ∧ k < w.heap.size := h.lt k hk
end Go.Proofs.YtblnoekogdpolaaDoor
namespace Go.Proofs.YtblnoekogdpolaaDoor
open Go.RowKit Go.WideShapes Go.Joins
variable {F : Nat} {f : J.Rd J.JV} {obj : Bool} {T : RS × Option (List (List Nat) × List J.JV)} {b pr pv : Nat} {w : World} {σ σ2 : RS} {As : List (Array Value)} {Js : List JB} {ss : List ByteArray} {nv iv : Value}
theorem box_at {w w' : World} {row : Option Nat} {g : Nat} {o : Obj} (hg : w.grownBy w' row) (h : w.heap[g]? = some o) (hne : some g ≠ row) : w'.heap[g]? = some o := by
  have hlt : g < w.heap.size := by
    rcases Nat.lt_or_ge g w.heap.size with h' | h'
    · exact h'
    · rw [Array.getElem?_eq_none h'] at h; cases h
  rw [hg.block g hlt hne]; exact h
end Go.Proofs.YtblnoekogdpolaaDoor
namespace Go.Proofs.YtblnoekogdpolaaDoor
open Go.RowKit Go.WideShapes Go.Joins
theorem below_new (w : World) (o : Obj) : Below w.heap.size w (w.alloc o) := (Below.refl _ _).alloc (Nat.le_refl _) o
theorem jin_form {w : World} {Z : Nat → Prop} {A : Array Value} {x : JB} (h : JIn w Z A x) : ∃ k bb n t nq nl nc iq il ic, A = jA k bb n t nq nl nc iq il ic := by
  cases h
  exact ⟨_, _, _, _, _, _, _, _, _, _, rfl⟩
end Go.Proofs.YtblnoekogdpolaaDoor
namespace Go.Proofs.YtblnoekogdpolaaDoor
open Go.RowKit Go.WideShapes Go.Joins
theorem below_of_grown {w w0 w' : World} {b : Nat} (h0 : Below w.heap.size w w0) (hg : w0.grownBy w' (some b)) (hb : w.heap.size ≤ b) : Below w.heap.size w w' :=
  ⟨hg.os.trans h0.os, hg.tape.trans h0.tape, hg.output.trans h0.output, Nat.le_trans h0.size hg.size, fun i hi => (hg.block i (Nat.lt_of_lt_of_le hi h0.size) (fun e => by cases e; omega)).trans (h0.block i hi)⟩
end Go.Proofs.YtblnoekogdpolaaDoor
namespace Go.Proofs.YtblnoekogdpolaaDoor
open Go.RowKit Go.WideShapes Go.Joins
structure DIn (w : World) (b : Nat) (S : ByteArray) (dp : Nat) (σ : RS) : Prop where
  ok : σ.ok
  sz : S.size ≤ 20000
  dpl : dp ≤ 32
  ex : ∃ i at' : Nat, i ≤ S.size + 1 ∧ at' ≤ S.size ∧ w.heap[b]? = some (.cells #[.string S, .int .i64 (i : Int), .int .i64 (σ.e : Int), .int .i64 (at' : Int), .int .i64 (dp : Int)] 72 (0, 0)) ∧
    (∀ s j, σ = .live s j → s = S ∧ i = j) ∧ (∀ s e, σ = .dead s e → s.size = at')
theorem DIn.lt {w : World} {b : Nat} {S : ByteArray} {dp : Nat} {σ : RS} (h : DIn w b S dp σ) : b < w.heap.size := by
  obtain ⟨i, a, _, _, hb, _⟩ := h.ex
  rcases Nat.lt_or_ge b w.heap.size with h' | h'
  · exact h'
  · rw [Array.getElem?_eq_none h'] at hb; cases hb
theorem DIn.at {w w' : World} {b : Nat} {S : ByteArray} {dp : Nat} {σ : RS} (h : DIn w b S dp σ) (hb : w'.heap[b]? = w.heap[b]?) : DIn w' b S dp σ := by
  obtain ⟨i, a, h1, h2, h3, h4⟩ := h.ex
  exact ⟨h.ok, h.sz, h.dpl, i, a, h1, h2, hb.trans h3, h4⟩
theorem DIn.below {w w' : World} {b : Nat} {S : ByteArray} {dp : Nat} {σ : RS} (h : DIn w b S dp σ) (hb : Below w.heap.size w w') : DIn w' b S dp σ := h.at (hb.block b h.lt)
def RS.nx : RS → Int
  | .live s i => if i < s.size then (((numsOf s).getD i 0 : Nat) : Int) else -1
  | .dead _ _ => -1
set_option maxHeartbeats 400000 in
theorem fail_any (b : Nat) (S : ByteArray) (dp : Nat) (σ : RS) (k : Nat) (A : Int) (hA : ∀ s i, σ = .live s i → A = (i : Int)) (hk : k ≠ 0 ∧ k < 65536) (w : World) (h : DIn w b S dp σ) :
    Calls Tryd.prog 40 #[rp b, .int .i64 (k : Int), .int .i64 A] w fun e w' => e = .returned (.tuple #[]) ∧ DIn w' b S dp (σ.refuse k) ∧ w.grownBy w' (some b) := by
  obtain ⟨i, a, h1, h2, hb, h3, h4⟩ := h.ex
  have hok := h.ok
  have hsz := h.sz
  have hdp := h.dpl
  have c2 : w.cell? ⟨b, 2, none⟩ = some (.int .i64 (σ.e : Int)) := by rw [cell_of_block hb]; rfl
  cases σ with
  | dead s e =>
    simp only [RS.e] at c2
    have he : ((e : Int) == 0) = false := by
      have := hok.1
      simpa using fun x : (e : Int) = 0 => this (by omega)
    have HD : Hid (DIn w b S dp (.dead s e)) := h
    clear h h1 h2 hb h3 h4 hok hA hk hsz hdp
    unfold rp
    go_enter Tryd.func40, Tryd.ntmps40
    go_wp2
    go_end0
    exact ⟨rfl, HD.out, grown_refl _ _⟩
  | live s j =>
    obtain ⟨rfl, rfl⟩ := h3 s j rfl
    simp only [RS.e] at c2
    rw [show (((0 : Nat) : Int)) = 0 from rfl] at c2
    have f2 : w.frozen? ⟨b, 2, none⟩ = false := unfrozen_of_block hb 2
    have f3 : w.frozen? ⟨b, 3, none⟩ = false := unfrozen_of_block hb 3
    have c3 : w.cell? ⟨b, 3, none⟩ = some (.int .i64 (a : Int)) := by rw [cell_of_block hb]; rfl
    have hjs : i ≤ s.size := hok
    have hE : DIn ((w.setCell ⟨b, 2, none⟩ (.int .i64 (k : Int))).setCell ⟨b, 3, none⟩ (.int .i64 A)) b s dp ((RS.live s i).refuse k) := by
      rw [hA s i rfl]
      refine ⟨hk, hsz, hdp, i, i, h1, hjs, block_setCell (i := 3) (block_setCell (i := 2) hb _) _, (fun s' j' e => by cases e), (fun s' e' e => by cases e; exact cutS_size s hjs)⟩
    have HE : Hid (DIn ((w.setCell ⟨b, 2, none⟩ (.int .i64 (k : Int))).setCell ⟨b, 3, none⟩ (.int .i64 A)) b s dp ((RS.live s i).refuse k)) := hE
    clear h h1 h2 hb h3 h4 hok hA hk hsz hdp hE hjs
    unfold rp
    go_enter Tryd.func40, Tryd.ntmps40
    go_wp2
    go_end0
    exact ⟨rfl, HE.out, grown_trans (grown_set _ _ _ _) (grown_set _ _ _ _)⟩
set_option maxHeartbeats 400000 in
theorem next_any (b : Nat) (S : ByteArray) (dp : Nat) (σ : RS) (w : World) (h : DIn w b S dp σ) :
    Calls Tryd.prog 70 #[rp b] w fun e w' => e = .returned (.int .i64 σ.nx) ∧ Below w.heap.size w w' := by
  obtain ⟨i, a, h1, h2, hb, h3, h4⟩ := h.ex
  have hok := h.ok
  have c0 : w.cell? ⟨b, 0, none⟩ = some (.string S) := by rw [cell_of_block hb]; rfl
  have c1 : w.cell? ⟨b, 1, none⟩ = some (.int .i64 (i : Int)) := by rw [cell_of_block hb]; rfl
  have c2 : w.cell? ⟨b, 2, none⟩ = some (.int .i64 (σ.e : Int)) := by rw [cell_of_block hb]; rfl
  cases σ with
  | dead s e =>
    simp only [RS.e] at c2
    have he : ((e : Int) == 0) = false := by
      have := hok.1
      simpa using fun x : (e : Int) = 0 => this (by omega)
    have he1 : ((e : Int) != 0) = true := by simp only [bne, he, Bool.not_false]
    clear h h1 h2 hb h3 h4 hok
    unfold rp
    go_enter Tryd.func70, Tryd.ntmps70
    go_wp2
    go_quiet (fail)
    have B1 : Below w.heap.size w (w.drewN nq) := below_dN (Below.refl _ _) _
    go_wp2
    go_ret
    exact ⟨rfl, B1⟩
  | live s j =>
    obtain ⟨rfl, rfl⟩ := h3 s j rfl
    simp only [RS.e] at c2
    rw [show (((0 : Nat) : Int)) = 0 from rfl] at c2
    by_cases hi : i < s.size
    · have hI : ¬ (s.size : Int) ≤ (i : Int) := by omega
      have hN : decide (s.size ≤ i) = false := decide_eq_false (by omega)
      have hx := fun w' => str_at s i hi w'
      have HV : Hid (RS.nx (.live s i) = wrap64 (((numsOf s)[i]?.getD 0 : Nat) : Int)) := by
        show _ = _
        have hb' := nums_byte' s i hi
        rw [List.getD_eq_getElem?_getD] at hb'
        simp only [RS.nx, hi, if_true, List.getD_eq_getElem?_getD]
        generalize (numsOf s)[i]?.getD 0 = k at hb'
        unfold wrap64
        omega
      clear h h1 h2 hb h3 h4 hok hi
      unfold rp
      go_enter Tryd.func70, Tryd.ntmps70
      go_wp2
      go_quiet (fail)
      have B1 : Below w.heap.size w (w.drewN nq) := below_dN (Below.refl _ _) _
      have d0 : (w.drewN nq).cell? ⟨b, 0, none⟩ = some (.string s) := c0
      have d1 : (w.drewN nq).cell? ⟨b, 1, none⟩ = some (.int .i64 (i : Int)) := c1
      generalize w.drewN nq = w2 at *
      clear c0 c1 c2
      go_wp2
      go_quiet (fail)
      have B2 : Below w.heap.size w (w2.drewN nq) := below_dN B1 _
      go_wp2
      go_ret
      rw [HV.out]
      exact ⟨rfl, B2⟩
    · have hI : (s.size : Int) ≤ (i : Int) := by omega
      have hN : decide (s.size ≤ i) = true := decide_eq_true (by omega)
      have HV : Hid (RS.nx (.live s i) = -1) := by show _ = _; simp only [RS.nx, hi, if_false]
      clear h h1 h2 hb h3 h4 hok hi
      unfold rp
      go_enter Tryd.func70, Tryd.ntmps70
      go_wp2
      go_quiet (fail)
      have B1 : Below w.heap.size w (w.drewN nq) := below_dN (Below.refl _ _) _
      go_wp2
      go_ret
      rw [HV.out]
      exact ⟨rfl, B1⟩
end Go.Proofs.YtblnoekogdpolaaDoor
