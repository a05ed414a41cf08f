/-
  What is read again behind later calls; literal rows; rows of the call's own.
-/
import Derived.Test.YtoagaddciapmkaaDoorRead
import Derived.Lib.SmallJoins
import Derived.OpenShut
namespace Go.Proofs.YtoagaddciapmkaaDoor.Bt
open Go.RowKit Go.WideShapes

theorem bin_lit (w : World) (g : Nat) (C : Array Value) (e : TypeId) (fr : Nat × Nat) (xs : List Nat) (hg : g = w.heap.size) (hC : C = (Bs xs).toArray) (hx : ∀ c ∈ xs, c < 256) : BIn (w.alloc (.cells C e fr)) (some ⟨g, 0, none⟩) xs := by
  subst hg hC
  refine ⟨fun _ => ⟨w.heap.size, 0, rfl, fun i hi => ?_⟩, hx⟩
  rw [cell_of_row (w.alloc (.cells (Bs xs).toArray e fr)) w.heap.size (0 + i) (Bs xs).toArray e fr (heap_alloc_new w _)]
  simp [Bs, List.getD, List.getElem?_eq_getElem hi]
theorem ret_true {p : Prop} [Decidable p] (h : p) : Ending.returned (.bool (decide p)) = .returned (.bool true) := by rw [decide_eq_true h]
theorem own_bin {w : World} {base : Nat} {p : Option Addr} {m c : Nat} {xs : List Nat} (h : w.ownsRow base 5 1 (.slice p m c) xs.length (Bs xs)) (hx : ∀ c ∈ xs, c < 256) : BIn w p xs ∧ m = xs.length := by
  rcases h.2 with ⟨hv, hn⟩ | ⟨g, cap, cur, hv, hb, hg, hle, hmax, hsz, htk⟩
  · simp at hv
    exact ⟨⟨fun h => by omega, hx⟩, by omega⟩
  · simp at hv
    obtain ⟨rfl, rfl, rfl⟩ := hv
    refine ⟨⟨fun _ => ⟨g, 0, rfl, fun i hi => ?_⟩, hx⟩, rfl⟩
    have := h.cells rfl i (.int .u8 (xs.getD i 0 : Nat)) (by simp [Bs, List.getD, List.getElem?_eq_getElem hi])
    rw [Go.WideShapes.add_plain] at this
    exact this

theorem own_at {w : World} {base : Nat} {p : Option Addr} {m c n : Nat} {xs : List Nat} (h : w.ownsRow base 5 1 (.slice p m c) n (Bs xs)) (hn : n = xs.length) (hx : ∀ c ∈ xs, c < 256) : BIn w p xs := by
  subst hn; exact (own_bin h hx).1

/-- What the walk is told of a slice of integers that came in: it is nil; or it leads to a row of 'cap' cells, the numbers 'zs' (the first 'len' are its elements, the rest its spare room), each fitting its kind. -/
def IsRow (k : IntKind) (w : World) (a : Option Addr) (len cap : Nat) (zs : List Int) : Prop :=
  (a = none ∧ len = 0 ∧ cap = 0 ∧ zs = []) ∨
  ∃ x, a = some x ∧ len ≤ cap ∧ cap ≤ maxLen ∧ zs.length = cap ∧ (∀ i, i < zs.length → w.cell? (x.add i) = some (.int k (zs.getD i 0))) ∧ ∀ n ∈ zs, (Lit.int k n).wf = true
theorem row_bin {w : World} {a : Option Addr} {len cap : Nat} {zs : List Int} (h : IsRow .u8 w a len cap zs) : ∃ xs : List Nat, len = xs.length ∧ BIn w a xs ∧ xs.length ≤ cap ∧ cap ≤ maxLen ∧ (a = none → cap = 0) := by
  rcases h with ⟨rfl, rfl, rfl, rfl⟩ | ⟨x, rfl, hl, hm, hz, hc, hw⟩
  · exact ⟨[], rfl, ⟨fun h => absurd h (by simp), by simp⟩, by simp, by unfold maxLen; omega, fun _ => rfl⟩
  · have hb : ∀ n ∈ zs, 0 ≤ n ∧ n ≤ 255 := fun n hn => bounds_u8 (hw n hn)
    refine ⟨(zs.take len).map Int.toNat, by simp; omega, ⟨fun hp => ?_, ?_⟩, by simp; omega, hm, by simp⟩
    · simp at hp
      obtain ⟨b, o, s⟩ := x
      obtain rfl : s = none := by simpa [Addr.add] using World.cell?_spot (hc 0 (by omega))
      refine ⟨b, o, rfl, fun i hi => ?_⟩
      simp at hi
      rw [← add_plain, hc i (by omega)]
      have hi' : i < zs.length := by omega
      have := hb _ (List.getElem_mem hi')
      simp [List.getD, List.getElem?_map, show i < len from by omega, List.getElem?_eq_getElem hi', Int.toNat_of_nonneg this.1]
    · intro c hc
      simp only [List.mem_map] at hc
      obtain ⟨n, hn, rfl⟩ := hc
      have := hb n (List.mem_of_mem_take hn)
      omega
/-- What is owned stays owned behind a call that writes nothing old. -/
theorem own_below {w w' : World} {base size n : Nat} {e : TypeId} {v : Value} {xs : List Value} (h : w.ownsRow base e size v n xs) (hb : Below w.heap.size w w') : w'.ownsRow base e size v n xs :=
  h.kept (row := none) ⟨hb.os, hb.tape, hb.output, hb.size, fun k hk _ => hb.block k hk⟩ (by cases v.ownBlock <;> simp)
theorem block_below {w w' : World} {g : Nat} {o : Obj} (h : w.heap[g]? = some o) (hb : Below w.heap.size w w') : w'.heap[g]? = some o := by
  have hg : g < w.heap.size := (Array.getElem?_eq_some_iff.1 h).1
  rw [hb.block g hg]; exact h
end Go.Proofs.YtoagaddciapmkaaDoor.Bt
