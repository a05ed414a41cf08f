import Derived.WalkKit
import Derived.Laws.BitsAllLaws
import Derived.Laws.BytesArg
import Derived.WideShapes
import Derived.OpenShut
import Derived.ProofKit
import Derived.Lib.SmallJoins
import Derived.Deep.SlicePairs
import Derived.Laws.AppendOwnNone
import Derived.WalkLawsBesides
import Derived.WalkSpells
namespace Go.Proofs.YtblnoekogdpolaaDoor
open Go.RowKit Go.WideShapes
def strOf (xs : List Nat) : ByteArray := strOfNums (xs.map fun n : Nat => (n : Int))
theorem strOf_list (xs : List Nat) : (strOf xs).data.toList = xs.map UInt8.ofNat := by
  simp [strOf, strOfNums_data, Function.comp_def]
def Bs (xs : List Nat) : List Value := xs.map fun n : Nat => Value.int .u8 (n : Int)
theorem Bs_len (xs : List Nat) : (Bs xs).length = xs.length := by simp [Bs]
theorem Bs_app (xs ys : List Nat) : Bs (xs ++ ys) = Bs xs ++ Bs ys := by simp [Bs]
end Go.Proofs.YtblnoekogdpolaaDoor
namespace Go.Proofs.YtblnoekogdpolaaDoor
open Go.RowKit Go.WideShapes Go.ChangeShapes Go.Deep Go.Joins
def BIn (w : World) (p : Option Addr) (xs : List Nat) : Prop :=
  (0 < xs.length → ∃ b o, p = some ⟨b, o, none⟩ ∧ ∀ i, i < xs.length → w.cell? ⟨b, o + i, none⟩ = some (.int .u8 (xs.getD i 0 : Nat))) ∧ ∀ c ∈ xs, c < 256
section
variable {P : Program} {w : World} {H : Type} {enc : TypeId × Value → H}
theorem BIn.cell {b o : Nat} {xs : List Nat} (h : BIn w (some ⟨b, o, none⟩) xs) (i : Nat) (hi : i < xs.length) : w.cell? ⟨b, o + i, none⟩ = some (.int .u8 (xs.getD i 0 : Nat)) := by
  obtain ⟨b', o', e, hc⟩ := h.1 (by omega)
  simp at e
  obtain ⟨rfl, rfl⟩ := e
  exact hc i hi
theorem bin_conv {tb eb ts : TypeId} (htb : P.underlying tb = some (.slice eb)) (heb : P.underlying eb = some (.int .u8)) (hts : P.underlying ts = some .string) {p : Option Addr} {xs : List Nat} {n : Nat} (h : BIn w p xs) (hn : n = xs.length) (c : Nat) :
    (convert tb ts (.slice p n c)).run P w = .ok (.string (strOf xs)) w := by
  subst hn
  rcases Nat.eq_zero_or_pos xs.length with hn | hn
  · obtain rfl : xs = [] := List.eq_nil_of_length_eq_zero hn
    show (convert tb ts (.slice p 0 c)).run P w = _
    rw [run_convert_bytes_string w tb ts eb _ 0 c htb heb hts]
    cases p <;> simp [Conv.bytesToString, loadCells]
    all_goals rfl
  · obtain ⟨b, o, rfl, hc⟩ := h.1 hn
    exact run_convert_bytes_arg w tb eb htb heb b o xs.length c (xs.map fun n : Nat => (n : Int)) (by simp) (fun i hi => by rw [hc i hi]; simp [List.getD, List.getElem?_map]; cases xs[i]? <;> rfl) ts hts
theorem bin_news {b o : Nat} {ys : List Nat} (h : BIn w (some ⟨b, o, none⟩) ys) : ∀ j u, (Bs ys)[j]? = some u → w.cell? ((⟨b, o, none⟩ : Addr).add j) = some u := by
  intro j u hu
  have hj : j < ys.length := by
    rcases Nat.lt_or_ge j ys.length with h | h
    · exact h
    · simp [Bs, List.getElem?_eq_none h] at hu
  rw [add_plain, h.cell j hj]
  simp [Bs, List.getElem?_eq_getElem hj] at hu
  simp [List.getD, List.getElem?_eq_getElem hj, ← hu]
theorem Bs_oneCell (ys : List Nat) : ∀ u ∈ Bs ys, u.oneCell' = true := by
  intro u hu
  simp only [Bs, List.mem_map] at hu
  obtain ⟨b, _, rfl⟩ := hu
  rfl
theorem run_append_row {tb eb : TypeId} {i0 : TypeInfo} (htb : P.underlying tb = some (.slice eb)) (hi : P.info? eb = some i0) (hz0 : i0.zero = some (.int .u8 0)) (hz1 : i0.size = 1) (hz2 : i0.bytes = 1)
    (base : Nat) (ty : TypeId) (v : Value) (xs ys : List Nat) (p : Option Addr) (c : Nat) (hown : w.ownsRow base eb 1 v xs.length (Bs xs)) (hin : BIn w p ys) (hp : p = none → c = 0)
    (hlen : xs.length + ys.length ≤ 140737488355328) (hbase : base ≤ w.heap.size) :
    ∃ v' w', (Builtin.append_ #[tb, tb] ty #[v, .slice p ys.length c]).run P w = .ok v' w' ∧ w'.ownsRow base eb 1 v' (xs ++ ys).length (Bs (xs ++ ys)) ∧ w.grownBy w' v.ownBlock := by
  have hmax : xs.length + ys.length ≤ maxLen := by unfold maxLen; omega
  cases p with
  | none =>
    obtain rfl : ys = [] := by
      cases ys with
      | nil => rfl
      | cons y ys => obtain ⟨b, o, e, _⟩ := hin.1 (by simp); cases e
    obtain rfl := hp rfl
    exact ⟨v, w, run_append_owned_none (P := P) w base tb ty eb i0 1 htb hi v xs.length (Bs xs) hown, by simpa using hown, ⟨rfl, rfl, rfl, Nat.le_refl _, fun _ _ _ => rfl⟩⟩
  | some ad =>
    have hc : ∀ j u, (Bs ys)[j]? = some u → w.cell? (ad.add j) = some u := by
      intro j u hu
      have hpos : 0 < ys.length := by
        cases ys with
        | nil => simp [Bs] at hu
        | cons y ys => simp
      obtain ⟨b, o, e, _⟩ := hin.1 hpos
      simp at e
      subst e
      exact bin_news hin j u hu
    obtain ⟨v', w', h1, h2, h3, _⟩ := run_append_own (P := P) w base tb ty eb i0 (.int .u8 0) 1 1 htb hi hz0 hz1 hz2 rfl (by decide) v xs.length (Bs xs) hown ad ys.length c (Bs ys) (by simp [Bs]) hc (Bs_oneCell ys) hmax (by omega) hbase
    exact ⟨v', w', h1, by simpa [Bs_app] using h2, h3⟩
end
end Go.Proofs.YtblnoekogdpolaaDoor
namespace Go.Proofs.YtblnoekogdpolaaDoor
open Go.RowKit Go.WideShapes
def numsOf (s : ByteArray) : List Nat := s.data.toList.map UInt8.toNat
theorem numsOf_len (s : ByteArray) : (numsOf s).length = s.size := by rw [numsOf, List.length_map, Array.length_toList]; rfl
theorem numsOf_lt (s : ByteArray) : ∀ c ∈ numsOf s, c < 256 := by
  intro c hc
  simp only [numsOf, List.mem_map] at hc
  obtain ⟨b, _, rfl⟩ := hc
  exact b.toNat_lt
theorem strOf_nums (s : ByteArray) : strOf (numsOf s) = s := by
  apply bytes_inj
  rw [strOf_list, numsOf, List.map_map]
  conv => rhs; rw [← List.map_id s.data.toList]
  congr 1
  funext b
  simp
theorem nums_strOf {xs : List Nat} (h : ∀ c ∈ xs, c < 256) : numsOf (strOf xs) = xs := by
  unfold numsOf
  rw [strOf_list, List.map_map]
  conv => rhs; rw [← List.map_id xs]
  apply List.map_congr_left
  intro c hc
  simp [Nat.mod_eq_of_lt (h c hc)]
end Go.Proofs.YtblnoekogdpolaaDoor
