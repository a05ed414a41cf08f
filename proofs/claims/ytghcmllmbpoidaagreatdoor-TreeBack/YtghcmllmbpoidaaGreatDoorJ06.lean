import Derived.Test.YtghcmllmbpoidaaGreatDoorJ03
import Derived.Test.YtghcmllmbpoidaaGreatDoorJ02
import Derived.Test.YtghcmllmbpoidaaGreatDoorProg
import Derived.WalkKit
import Derived.WideShapes
import Derived.OpenShut
import Derived.ProofKit
import Derived.Below
import Derived.BigQuiet
import Derived.Deep.QuietTactic
import Derived.Deep.AppendLies
import Derived.Deep.SlicePairs
import Derived.Deep.RegionHeld3
import Derived.Deep.Cut
import Derived.Lib.SmallJoins
import Derived.Laws.AppendOwnNone
import Derived.LaidEql
import Derived.Stop.Asserts
import Derived.RowKitTokens
namespace Go.Proofs.YtghcmllmbpoidaaGreatDoor.Rm
abbrev Pcs := List (Int × Int)
def Apart (p q : Int × Int) : Prop := p.1 + p.2 ≤ q.1 ∨ q.1 + q.2 ≤ p.1
def Wn (count : Int) (p : Int × Int) : Prop := 0 ≤ p.1 ∧ 1 ≤ p.2 ∧ p.2 ≤ count - p.1
def wnB (count : Int) (p : Int × Int) : Bool := decide (0 ≤ p.1 ∧ 1 ≤ p.2 ∧ p.2 ≤ count - p.1)
theorem wnB_yes {count : Int} {p : Int × Int} (h : Wn count p) : wnB count p = true := decide_eq_true h
theorem wnB_no {count : Int} {p : Int × Int} (h : ¬ Wn count p) : wnB count p = false := decide_eq_false h
structure Good (count : Int) (l : Pcs) : Prop where
  wn : ∀ p ∈ l, Wn count p
  apart : l.Pairwise Apart
def goodB (count : Int) : Pcs → Bool
  | [] => true
  | p :: l => decide (0 ≤ p.1 ∧ 1 ≤ p.2 ∧ p.2 ≤ count - p.1) && l.all (fun q => decide (p.1 + p.2 ≤ q.1 ∨ q.1 + q.2 ≤ p.1)) && goodB count l
theorem goodB_iff {count : Int} : ∀ {l : Pcs}, goodB count l = true ↔ Good count l
  | [] => ⟨fun _ => ⟨by simp, List.Pairwise.nil⟩, fun _ => rfl⟩
  | p :: l => by
    have ih := goodB_iff (count := count) (l := l)
    simp only [goodB, Bool.and_eq_true, decide_eq_true_eq, List.all_eq_true]
    constructor
    · rintro ⟨⟨h1, h2⟩, h3⟩
      have g := ih.1 h3
      refine ⟨fun q hq => ?_, List.Pairwise.cons h2 g.apart⟩
      rcases List.mem_cons.1 hq with rfl | hq
      · exact h1
      · exact g.wn q hq
    · intro h
      have h2 := List.pairwise_cons.1 h.apart
      exact ⟨⟨h.wn p (by simp), h2.1⟩, ih.2 ⟨fun q hq => h.wn q (by simp [hq]), h2.2⟩⟩
def errK (count : Int) (l : Pcs) : Int := if 0 ≤ count ∧ count ≤ 4096 then if l.length ≤ 4096 then if goodB count l = true then 0 else 8 else 4 else 2
theorem errK_ok {count : Int} {l : Pcs} (h : 0 ≤ count ∧ count ≤ 4096) (h2 : l.length ≤ 4096) (h3 : Good count l) : errK count l = 0 := by
  unfold errK; rw [if_pos h, if_pos h2, if_pos (goodB_iff.2 h3)]
theorem errK_bad {count : Int} {l : Pcs} (h : 0 ≤ count ∧ count ≤ 4096) (h2 : l.length ≤ 4096) (h3 : ¬ Good count l) : errK count l = 8 := by
  unfold errK; rw [if_pos h, if_pos h2, if_neg (fun e => h3 (goodB_iff.1 e))]
theorem errK_many {count : Int} {l : Pcs} (h : 0 ≤ count ∧ count ≤ 4096) (h2 : ¬ l.length ≤ 4096) : errK count l = 4 := by
  unfold errK; rw [if_pos h, if_neg h2]
theorem errK_arg {count : Int} {l : Pcs} (h : ¬ (0 ≤ count ∧ count ≤ 4096)) : errK count l = 2 := by
  unfold errK; rw [if_neg h]
theorem errK_zero {count : Int} {l : Pcs} (h : errK count l = 0) : (0 ≤ count ∧ count ≤ 4096) ∧ l.length ≤ 4096 ∧ Good count l := by
  by_cases h1 : 0 ≤ count ∧ count ≤ 4096
  · by_cases h2 : l.length ≤ 4096
    · by_cases h3 : Good count l
      · exact ⟨h1, h2, h3⟩
      · rw [errK_bad h1 h2 h3] at h; omega
    · rw [errK_many h1 h2] at h; omega
  · rw [errK_arg h1] at h; omega
theorem nil_or_snoc {α : Type} (l : List α) : l = [] ∨ ∃ t q, l = t ++ [q] := by
  rcases List.eq_nil_or_concat l with h | ⟨t, q, h⟩
  · exact .inl h
  · exact .inr ⟨t, q, by rw [h, List.concat_eq_append]⟩
theorem Apart.symm {p q : Int × Int} (h : Apart p q) : Apart q p := Or.symm h
theorem Good.perm {count : Int} {l s : Pcs} (h : Good count l) (hp : l.Perm s) : Good count s :=
  ⟨fun p hm => h.wn p (hp.mem_iff.2 hm), (hp.pairwise_iff (fun h => Apart.symm h)).1 h.apart⟩
theorem getD_mem' {α : Type} {l : List α} {d : α} {i : Nat} (h : i < l.length) : l.getD i d ∈ l := by
  simp [List.getD, List.getElem?_eq_getElem h]
theorem take_snoc {α : Type} {l : List α} {d : α} {i : Nat} (h : i < l.length) : l.take (i + 1) = l.take i ++ [l.getD i d] := by
  rw [List.take_add_one]; simp [List.getD, List.getElem?_eq_getElem h]
theorem getD_eq {α : Type} {l : List α} {d : α} {i : Nat} (h : i < l.length) : l.getD i d = l[i] := by
  simp [List.getD, List.getElem?_eq_getElem h]
def Up (s : Pcs) : Prop := s.Pairwise fun p q => p.1 ≤ q.1
def Chain (s : Pcs) : Prop := s.Pairwise fun p q => p.1 + p.2 ≤ q.1
def endOf (s : Pcs) : Int := match s.getLast? with | some p => p.1 + p.2 | none => 0
theorem endOf_snoc (s : Pcs) (p : Int × Int) : endOf (s ++ [p]) = p.1 + p.2 := by simp [endOf]
theorem Chain.good {count : Int} {s : Pcs} (h : Chain s) (hw : ∀ p ∈ s, Wn count p) : Good count s := ⟨hw, List.Pairwise.imp (fun h => Or.inl h) h⟩
theorem Good.chain {count : Int} {s : Pcs} (h : Good count s) (hu : Up s) : Chain s := by
  have h1 := h.wn
  have h2 := h.apart
  clear h
  induction s with
  | nil => exact List.Pairwise.nil
  | cons p s ih =>
    unfold Up at hu
    rw [List.pairwise_cons] at hu h2
    refine List.Pairwise.cons ?_ (ih hu.2 (fun q hq => h1 q (List.mem_cons_of_mem _ hq)) h2.2)
    intro q hq
    have a := hu.1 q hq
    have b := h2.1 q hq
    have c := h1 q (List.mem_cons_of_mem _ hq)
    unfold Apart at b
    unfold Wn at c
    omega
theorem mem_le_end {s : Pcs} (h : Chain s) (hw : ∀ p ∈ s, 1 ≤ p.2) : ∀ p ∈ s, p.1 + p.2 ≤ endOf s := by
  intro p hp
  rcases nil_or_snoc s with rfl | ⟨t, q, rfl⟩
  · simp at hp
  · rw [endOf_snoc]
    simp only [List.mem_append, List.mem_singleton] at hp
    rcases hp with hp | rfl
    · have := (List.pairwise_append.1 h).2.2 p hp q (by simp)
      have := hw q (by simp)
      omega
    · omega
theorem Chain.snoc {s : Pcs} {p : Int × Int} (h : Chain s) (hw : ∀ p ∈ s, 1 ≤ p.2) (he : endOf s ≤ p.1) : Chain (s ++ [p]) := by
  unfold Chain
  rw [List.pairwise_append]
  refine ⟨h, by simp, fun q hq r hr => ?_⟩
  simp only [List.mem_singleton] at hr
  subst hr
  have := mem_le_end h hw q hq
  omega
theorem not_good_end {count : Int} {s : Pcs} {p : Int × Int} {m : Pcs} (hp : 0 ≤ p.1) (hu : Up (s ++ p :: m)) (hw : ∀ q ∈ s ++ p :: m, Wn count q) (he : p.1 < endOf s) : ¬ Good count (s ++ p :: m) := by
  intro hg
  have hc := hg.chain hu
  rcases nil_or_snoc s with rfl | ⟨t, q, rfl⟩
  · simp [endOf] at he; omega
  · rw [endOf_snoc] at he
    have := (List.pairwise_append.1 hc).2.2 q (by simp) p (by simp)
    omega
end Go.Proofs.YtghcmllmbpoidaaGreatDoor.Rm
namespace Go.Proofs.YtghcmllmbpoidaaGreatDoor
open Go.RowKit Go.WideShapes Rm
structure FileV where
  name : ByteArray
  size : Int
  pcs : Pcs
structure DirV where
  gen : Int
  files : List FileV
def zeroF : FileV := ⟨ByteArray.empty, 0, []⟩
def nameByte (c : Nat) : Bool := decide (97 ≤ c ∧ c ≤ 122 ∨ 48 ≤ c ∧ c ≤ 57 ∨ c = 45 ∨ c = 95 ∨ c = 46)
def isNameN (s : ByteArray) : Bool := decide (1 ≤ s.size ∧ s.size ≤ 32) && (numsOf s).all nameByte
def needsN (size : Int) : Int := (size + 127) / 128
def allPcs (l : List FileV) : Pcs := l.flatMap FileV.pcs
def sumC (l : Pcs) : Int := (l.map Prod.snd).sum
def FileOk (f : FileV) : Prop := isNameN f.name = true ∧ 0 ≤ f.size ∧ f.size ≤ 524288 ∧ (∀ p ∈ f.pcs, 80 ≤ p.1) ∧ sumC f.pcs = needsN f.size
def Rises (lt : ByteArray → ByteArray → Prop) (l : List FileV) : Prop := ∀ i, i + 1 < l.length → lt (l.getD i zeroF).name (l.getD (i + 1) zeroF).name
structure May (lt : ByteArray → ByteArray → Prop) (x : DirV) : Prop where
  lo : 1 ≤ x.gen
  hi : x.gen < 4611686018427387904
  many : x.files.length ≤ 32
  rise : Rises lt x.files
  pcs : errK 4096 (allPcs x.files) = 0
  each : ∀ f ∈ x.files, FileOk f
def pieceN (p : Int × Int) : List Nat := smallN p.1.toNat ++ smallN p.2.toNat
def fileN (f : FileV) : List Nat := textN f.name ++ smallN f.size.toNat ++ smallN f.pcs.length ++ f.pcs.flatMap pieceN
def insideN (l : List FileV) : List Nat := smallN l.length ++ l.flatMap fileN
def padN (xs : List Nat) : List Nat := xs ++ List.replicate (952 - xs.length) 0
def sectN (gen : Nat) (xs : List Nat) (i : Nat) : List Nat := putN gen ++ [i] ++ (xs.drop (i * 119)).take 119
def sectsN (gen : Nat) (xs : List Nat) (k : Nat) : List Nat := (List.range k).flatMap (sectN gen xs)
def bytesN (x : DirV) : List Nat := sectsN x.gen.toNat (padN (insideN x.files)) 8
def IsDir (lt : ByteArray → ByteArray → Prop) (x : DirV) (b : List Nat) : Prop := May lt x ∧ (insideN x.files).length ≤ 952 ∧ b = bytesN x
def cutNum (bound : Nat) (b : List Nat) : Option (Nat × List Nat) := match readN b with
  | none => none
  | some (n, k) => if bound < n then none else some (n, b.drop k)
def cutPiece (b1 b2 : Nat) (b : List Nat) : Option ((Int × Int) × List Nat) := match cutNum b1 b with
  | none => none
  | some (n, r) => match cutNum b2 r with
    | none => none
    | some (m, r) => some (((n : Int), (m : Int)), r)
def cutMany {α : Type} (f : List Nat → Option (α × List Nat)) : Nat → List Nat → Option (List α × List Nat)
  | 0, b => some ([], b)
  | n + 1, b => match f b with
    | none => none
    | some (x, r) => match cutMany f n r with
      | none => none
      | some (l, r) => some (x :: l, r)
def cutText (b : List Nat) : Option (ByteArray × List Nat) := match readN b with
  | none => none
  | some (n, k) => if b.length < k + n then none else some (strOf ((b.drop k).take n), b.drop (k + n))
structure Bnds where
  files : Nat
  size : Nat
  many : Nat
  lo : Nat
  count : Nat
def cutFile (B : Bnds) (b : List Nat) : Option (FileV × List Nat) := match cutText b with
  | none => none
  | some (s, r) => match cutNum B.size r with
    | none => none
    | some (n, r) => match cutNum B.many r with
      | none => none
      | some (k, r) => match cutMany (cutPiece B.lo B.count) k r with
        | none => none
        | some (l, r) => some (⟨s, n, l⟩, r)
def cutFiles (B : Bnds) (b : List Nat) : Option (List FileV × List Nat) := match cutNum B.files b with
  | none => none
  | some (n, r) => cutMany (cutFile B) n r
theorem cutNum_back {bound n : Nat} (r : List Nat) (h : n ≤ bound) (hn : n < 18446744073709551616) : cutNum bound (smallN n ++ r) = some (n, r) := by
  unfold cutNum
  rw [read_back n r hn]
  simp only
  rw [if_neg (by omega), List.drop_left]
theorem cutPiece_back {b1 b2 : Nat} (p : Int × Int) (r : List Nat) (h1 : 0 ≤ p.1 ∧ p.1 ≤ b1) (h2 : 0 ≤ p.2 ∧ p.2 ≤ b2) (hb : b1 < 18446744073709551616 ∧ b2 < 18446744073709551616) : cutPiece b1 b2 (pieceN p ++ r) = some (p, r) := by
  unfold cutPiece pieceN
  rw [List.append_assoc, cutNum_back _ (by omega) (by omega)]
  simp only
  rw [cutNum_back _ (by omega) (by omega)]
  simp only [Option.some.injEq, Prod.mk.injEq, and_true]
  exact Prod.ext (by simp; omega) (by simp; omega)
theorem cutMany_back {α : Type} {f : List Nat → Option (α × List Nat)} {g : α → List Nat} : ∀ (l : List α) (r : List Nat), (∀ x ∈ l, ∀ r, f (g x ++ r) = some (x, r)) → cutMany f l.length (l.flatMap g ++ r) = some (l, r)
  | [], r, _ => by simp [cutMany]
  | x :: l, r, h => by
    rw [List.length_cons, List.flatMap_cons, List.append_assoc]
    unfold cutMany
    rw [h x (by simp)]
    simp only
    rw [cutMany_back l r (fun y hy => h y (by simp [hy]))]
theorem cutText_back (s : ByteArray) (r : List Nat) (h : s.size < 18446744073709551616) : cutText (textN s ++ r) = some (s, r) := by
  unfold cutText textN
  rw [List.append_assoc, read_back _ _ h]
  have hl : (numsOf s).length = s.size := numsOf_len s
  simp only
  rw [if_neg (by simp [hl]), List.drop_left, ← hl, List.take_left, strOf_nums]
  congr 2
  rw [← List.append_assoc, hl, ← hl]
  rw [show (smallN (numsOf s).length).length + (numsOf s).length = (smallN (numsOf s).length ++ numsOf s).length from by simp, List.drop_left]
theorem cutFile_back (B : Bnds) (f : FileV) (r : List Nat) (hs : f.name.size < 18446744073709551616) (h1 : 0 ≤ f.size ∧ f.size ≤ B.size) (h2 : f.pcs.length ≤ B.many)
    (h3 : ∀ p ∈ f.pcs, (0 ≤ p.1 ∧ p.1 ≤ B.lo) ∧ (0 ≤ p.2 ∧ p.2 ≤ B.count)) (hb : B.size < 18446744073709551616 ∧ B.many < 18446744073709551616 ∧ B.lo < 18446744073709551616 ∧ B.count < 18446744073709551616) : cutFile B (fileN f ++ r) = some (f, r) := by
  unfold cutFile fileN
  rw [List.append_assoc, List.append_assoc, List.append_assoc, cutText_back _ _ hs]
  simp only
  rw [cutNum_back _ (by omega) (by omega)]
  simp only
  rw [cutNum_back _ h2 (by omega)]
  simp only
  rw [cutMany_back (g := pieceN) _ _ (fun p hp r => cutPiece_back p r (h3 p hp).1 (h3 p hp).2 ⟨hb.2.2.1, hb.2.2.2⟩)]
  simp only [Option.some.injEq, Prod.mk.injEq, and_true]
  rw [Int.toNat_of_nonneg h1.1]
def Byt (b : List Nat) : Prop := ∀ c ∈ b, c < 256
theorem Byt.app {a b : List Nat} (h : Byt (a ++ b)) : Byt b := fun c hc => h c (by simp [hc])
theorem Byt.drop {b : List Nat} (h : Byt b) (k : Nat) : Byt (b.drop k) := fun c hc => h c (List.mem_of_mem_drop hc)
theorem Byt.take {b : List Nat} (h : Byt b) (k : Nat) : Byt (b.take k) := fun c hc => h c (List.mem_of_mem_take hc)
theorem cutNum_only {bound n : Nat} {b r : List Nat} (hb : Byt b) (h : cutNum bound b = some (n, r)) : b = smallN n ++ r ∧ n ≤ bound := by
  unfold cutNum at h
  split at h
  · cases h
  · rename_i n' k e
    split at h
    · cases h
    · simp only [Option.some.injEq, Prod.mk.injEq] at h
      obtain ⟨rfl, rfl⟩ := h
      refine ⟨?_, by omega⟩
      rw [← read_only hb e, List.take_append_drop]
theorem cutPiece_only {b1 b2 : Nat} {p : Int × Int} {b r : List Nat} (hb : Byt b) (h : cutPiece b1 b2 b = some (p, r)) : b = pieceN p ++ r ∧ (0 ≤ p.1 ∧ p.1 ≤ b1) ∧ (0 ≤ p.2 ∧ p.2 ≤ b2) := by
  unfold cutPiece at h
  split at h
  · cases h
  · rename_i n r1 e1
    split at h
    · cases h
    · rename_i m r2 e2
      simp only [Option.some.injEq, Prod.mk.injEq] at h
      obtain ⟨rfl, rfl⟩ := h
      obtain ⟨h1, h2⟩ := cutNum_only hb e1
      obtain ⟨h3, h4⟩ := cutNum_only (Byt.app (h1 ▸ hb)) e2
      refine ⟨?_, by simp; omega, by simp; omega⟩
      unfold pieceN
      rw [h1, h3]
      simp
theorem cutMany_only {α : Type} {f : List Nat → Option (α × List Nat)} {g : α → List Nat} {Q : α → Prop} (hf : ∀ b x r, Byt b → f b = some (x, r) → b = g x ++ r ∧ Q x) : ∀ (n : Nat) (b : List Nat) (l : List α) (r : List Nat), Byt b → cutMany f n b = some (l, r) → b = l.flatMap g ++ r ∧ l.length = n ∧ ∀ x ∈ l, Q x
  | 0, b, l, r, _, h => by
    simp only [cutMany, Option.some.injEq, Prod.mk.injEq] at h
    obtain ⟨rfl, rfl⟩ := h
    simp
  | n + 1, b, l, r, hb, h => by
    unfold cutMany at h
    split at h
    · cases h
    · rename_i x r1 e1
      split at h
      · cases h
      · rename_i l2 r2 e2
        simp only [Option.some.injEq, Prod.mk.injEq] at h
        obtain ⟨rfl, rfl⟩ := h
        obtain ⟨h1, h1q⟩ := hf b x r1 hb e1
        obtain ⟨h2, h3, h4⟩ := cutMany_only hf n r1 l2 r2 (Byt.app (h1 ▸ hb)) e2
        refine ⟨by rw [List.flatMap_cons, List.append_assoc, ← h2, ← h1], by simp [h3], ?_⟩
        intro y hy
        rcases List.mem_cons.1 hy with rfl | hy
        · exact h1q
        · exact h4 y hy
theorem nums_strOf {xs : List Nat} (h : Byt xs) : numsOf (strOf xs) = xs := by
  unfold numsOf
  rw [strOf_list, List.map_map]
  conv => rhs; rw [← List.map_id xs]
  apply List.map_congr_left
  intro c hc
  have := h c hc
  simp; omega
theorem cutText_only {s : ByteArray} {b r : List Nat} (hb : Byt b) (h : cutText b = some (s, r)) : b = textN s ++ r := by
  unfold cutText at h
  split at h
  · cases h
  · rename_i n k e
    split at h
    · cases h
    · rename_i hl
      simp only [Option.some.injEq, Prod.mk.injEq] at h
      obtain ⟨rfl, rfl⟩ := h
      unfold textN
      have hlen : ((b.drop k).take n).length = n := by simp; omega
      rw [nums_strOf ((hb.drop k).take n), strOf_size, hlen, ← read_only hb e, List.append_assoc, ← List.drop_drop, List.take_append_drop, List.take_append_drop]
theorem cutFile_only {B : Bnds} {f : FileV} {b r : List Nat} (hb : Byt b) (h : cutFile B b = some (f, r)) : b = fileN f ++ r ∧ ((0 ≤ f.size ∧ f.size ≤ B.size) ∧ f.pcs.length ≤ B.many ∧ ∀ p ∈ f.pcs, (0 ≤ p.1 ∧ p.1 ≤ B.lo) ∧ (0 ≤ p.2 ∧ p.2 ≤ B.count)) := by
  unfold cutFile at h
  split at h
  · cases h
  · rename_i s r1 e1
    split at h
    · cases h
    · rename_i n r2 e2
      split at h
      · cases h
      · rename_i k r3 e3
        split at h
        · cases h
        · rename_i l r4 e4
          simp only [Option.some.injEq, Prod.mk.injEq] at h
          obtain ⟨rfl, rfl⟩ := h
          have h1 := cutText_only hb e1
          have b1 := Byt.app (h1 ▸ hb)
          obtain ⟨h2, g2⟩ := cutNum_only b1 e2
          have b2 := Byt.app (h2 ▸ b1)
          obtain ⟨h3, g3⟩ := cutNum_only b2 e3
          have b3 := Byt.app (h3 ▸ b2)
          obtain ⟨h4, g4, g5⟩ := cutMany_only (g := pieceN) (Q := fun p => (0 ≤ p.1 ∧ p.1 ≤ B.lo) ∧ (0 ≤ p.2 ∧ p.2 ≤ B.count)) (fun b x r hb h => cutPiece_only hb h) k r3 l r4 b3 e4
          refine ⟨?_, by simp; omega, by simp; omega, g5⟩
          unfold fileN
          simp only [Int.toNat_natCast, g4]
          rw [h1, h2, h3, h4]
          simp
theorem cutFiles_only {B : Bnds} {l : List FileV} {b r : List Nat} (hb : Byt b) (h : cutFiles B b = some (l, r)) : b = insideN l ++ r := by
  unfold cutFiles at h
  split at h
  · cases h
  · rename_i n r1 e1
    obtain ⟨h1, _⟩ := cutNum_only hb e1
    obtain ⟨h2, h3, _⟩ := cutMany_only (g := fileN) (Q := fun _ => True) (fun b x r hb h => ⟨(cutFile_only hb h).1, trivial⟩) n r1 l r (Byt.app (h1 ▸ hb)) h
    unfold insideN
    rw [h3, h1, h2]
    simp
structure Bok (B : Bnds) : Prop where
  files : 32 ≤ B.files ∧ B.files < 18446744073709551616
  size : 524288 ≤ B.size ∧ B.size < 18446744073709551616
  many : 4096 ≤ B.many ∧ B.many < 18446744073709551616
  lo : 4095 ≤ B.lo ∧ B.lo < 18446744073709551616
  count : 4096 ≤ B.count ∧ B.count < 18446744073709551616
theorem mem_allPcs {l : List FileV} {f : FileV} {p : Int × Int} (hf : f ∈ l) (hp : p ∈ f.pcs) : p ∈ allPcs l := List.mem_flatMap.2 ⟨f, hf, hp⟩
theorem len_allPcs {l : List FileV} {f : FileV} (hf : f ∈ l) : f.pcs.length ≤ (allPcs l).length := by
  induction l with
  | nil => simp at hf
  | cons g l ih =>
    unfold allPcs at ih ⊢
    rw [List.flatMap_cons, List.length_append]
    rcases List.mem_cons.1 hf with rfl | h
    · omega
    · have := ih h; omega
theorem cutFiles_back {lt : ByteArray → ByteArray → Prop} {B : Bnds} (hB : Bok B) {x : DirV} (h : May lt x) (r : List Nat) : cutFiles B (insideN x.files ++ r) = some (x.files, r) := by
  unfold cutFiles insideN
  have h1 := h.many
  obtain ⟨_, hl, hg⟩ := errK_zero h.pcs
  rw [List.append_assoc, cutNum_back _ (by have := hB.files; omega) (by omega)]
  simp only
  refine cutMany_back (g := fileN) _ _ fun f hf r => ?_
  obtain ⟨k1, k2, k3, k4, k5⟩ := h.each f hf
  have k6 : f.name.size ≤ 32 := by
    unfold isNameN at k1
    simp only [Bool.and_eq_true, decide_eq_true_eq] at k1
    omega
  refine cutFile_back B f r (by omega) ⟨k2, by have := hB.size; omega⟩ (by have := len_allPcs hf; have := hB.many; omega) (fun p hp => ?_) ⟨hB.size.2, hB.many.2, hB.lo.2, hB.count.2⟩
  have := hg.wn p (mem_allPcs hf hp)
  unfold Wn at this
  have := hB.lo
  have := hB.count
  constructor <;> constructor <;> omega
theorem flat_len {α : Type} {f : Nat → List α} {c : Nat} : ∀ {k : Nat}, (∀ i, i < k → (f i).length = c) → ((List.range k).flatMap f).length = k * c
  | 0, _ => by simp
  | k + 1, h => by
    rw [List.range_succ, List.flatMap_append, List.length_append, flat_len (fun i hi => h i (by omega))]
    simp [h k (by omega), Nat.succ_mul]
theorem flat_at {α : Type} {f : Nat → List α} {c i : Nat} : ∀ {k : Nat}, (∀ i, i < k → (f i).length = c) → i < k → (((List.range k).flatMap f).drop (i * c)).take c = f i
  | 0, _, h => by omega
  | k + 1, h, hi => by
    have hlen := flat_len (f := f) (c := c) (k := k) (fun i hi => h i (by omega))
    rw [List.range_succ, List.flatMap_append]
    rcases Nat.lt_or_ge i k with h1 | h1
    · have : (i + 1) * c ≤ k * c := Nat.mul_le_mul_right c h1
      rw [Nat.succ_mul] at this
      rw [List.drop_append_of_le_length (by omega), List.take_append_of_le_length (by rw [List.length_drop]; omega)]
      exact flat_at (fun i hi => h i (by omega)) h1
    · obtain rfl : i = k := by omega
      rw [← hlen, List.drop_left]
      have := h i (by omega)
      simp [← this]
theorem chunks {α : Type} (b : List α) (c : Nat) : ∀ k, (List.range k).flatMap (fun i => (b.drop (i * c)).take c) = b.take (k * c)
  | 0 => by simp
  | k + 1 => by
    rw [List.range_succ, List.flatMap_append, chunks b c k, Nat.succ_mul, List.take_add]
    simp
theorem flat_congr {α : Type} {f g : Nat → List α} {k : Nat} (h : ∀ i, i < k → f i = g i) : (List.range k).flatMap f = (List.range k).flatMap g := by
  rw [List.flatMap_def, List.flatMap_def]
  congr 1
  apply List.map_congr_left
  intro i hi
  exact h i (List.mem_range.1 hi)
def beg8 (b : List Nat) : Nat := joinN (b.getD 0 0) (b.getD 1 0) (b.getD 2 0) (b.getD 3 0) (b.getD 4 0) (b.getD 5 0) (b.getD 6 0) (b.getD 7 0)
theorem beg8_put {n : Nat} (r : List Nat) (h : n < 18446744073709551616) : beg8 (putN n ++ r) = n := by
  have := join_put n h
  simpa [beg8, putN] using this
theorem list8' {b : List Nat} (h : 8 ≤ b.length) : b.take 8 = [b.getD 0 0, b.getD 1 0, b.getD 2 0, b.getD 3 0, b.getD 4 0, b.getD 5 0, b.getD 6 0, b.getD 7 0] := by
  rcases b with _ | ⟨a0, b⟩ <;> simp only [List.length_cons, List.length_nil] at h <;> first | omega | skip
  rcases b with _ | ⟨a1, b⟩ <;> simp only [List.length_cons, List.length_nil] at h <;> first | omega | skip
  rcases b with _ | ⟨a2, b⟩ <;> simp only [List.length_cons, List.length_nil] at h <;> first | omega | skip
  rcases b with _ | ⟨a3, b⟩ <;> simp only [List.length_cons, List.length_nil] at h <;> first | omega | skip
  rcases b with _ | ⟨a4, b⟩ <;> simp only [List.length_cons, List.length_nil] at h <;> first | omega | skip
  rcases b with _ | ⟨a5, b⟩ <;> simp only [List.length_cons, List.length_nil] at h <;> first | omega | skip
  rcases b with _ | ⟨a6, b⟩ <;> simp only [List.length_cons, List.length_nil] at h <;> first | omega | skip
  rcases b with _ | ⟨a7, b⟩ <;> simp only [List.length_cons, List.length_nil] at h <;> first | omega | skip
  simp
theorem put_beg8 {b : List Nat} (hb : Byt b) (h : 8 ≤ b.length) : b.take 8 = putN (beg8 b) := by
  rw [list8' h]
  have g := fun i => getD_lt hb i
  have g0 := g 0; have g1 := g 1; have g2 := g 2; have g3 := g 3; have g4 := g 4; have g5 := g 5; have g6 := g 6; have g7 := g 7
  unfold beg8 putN joinN
  generalize b.getD 0 0 = a0 at *
  generalize b.getD 1 0 = a1 at *
  generalize b.getD 2 0 = a2 at *
  generalize b.getD 3 0 = a3 at *
  generalize b.getD 4 0 = a4 at *
  generalize b.getD 5 0 = a5 at *
  generalize b.getD 6 0 = a6 at *
  generalize b.getD 7 0 = a7 at *
  simp only [List.cons.injEq, and_true]
  refine ⟨?_, ?_, ?_, ?_, ?_, ?_, ?_, ?_⟩ <;> omega
theorem beg8_lt {b : List Nat} (hb : Byt b) : beg8 b < 18446744073709551616 := by
  have g := fun i => getD_lt hb i
  have g0 := g 0; have g1 := g 1; have g2 := g 2; have g3 := g 3; have g4 := g 4; have g5 := g 5; have g6 := g 6; have g7 := g 7
  unfold beg8 joinN
  omega
theorem putN_len (n : Nat) : (putN n).length = 8 := rfl
def secAt (b : List Nat) (i : Nat) : List Nat := (b.drop (i * 128)).take 128
def innerN (b : List Nat) (k : Nat) : List Nat := (List.range k).flatMap fun i => (secAt b i).drop 9
theorem secAt_len {b : List Nat} {i : Nat} (h : b.length = 1024) (hi : i < 8) : (secAt b i).length = 128 := by unfold secAt; simp; omega
theorem innerN_len {b : List Nat} (h : b.length = 1024) : (innerN b 8).length = 952 := by
  unfold innerN
  rw [flat_len (c := 119) (fun i hi => by rw [List.length_drop, secAt_len h hi])]
theorem sec_parts {s : List Nat} (hs : Byt s) (h : s.length = 128) : s = putN (beg8 s) ++ [s.getD 8 0] ++ s.drop 9 := by
  rw [← put_beg8 hs (by omega)]
  conv => lhs; rw [← List.take_append_drop 9 s, take_snoc (d := 0) (by omega)]
theorem sects_of {b : List Nat} (hb : Byt b) (hl : b.length = 1024) {gen : Nat} (h : ∀ i, i < 8 → beg8 (secAt b i) = gen ∧ (secAt b i).getD 8 0 = i) : b = sectsN gen (innerN b 8) 8 := by
  conv => lhs; rw [← List.take_length (l := b), hl, ← chunks b 128 8]
  unfold sectsN
  refine flat_congr fun i hi => ?_
  obtain ⟨h1, h2⟩ := h i hi
  have hs := sec_parts (s := secAt b i) ((hb.drop _).take _) (secAt_len hl hi)
  rw [h1, h2] at hs
  unfold sectN
  have := flat_at (f := fun i => (secAt b i).drop 9) (c := 119) (k := 8) (fun i hi => by rw [List.length_drop, secAt_len hl hi]) hi
  rw [show innerN b 8 = (List.range 8).flatMap fun i => (secAt b i).drop 9 from rfl, this]
  exact hs
theorem sectN_len {gen : Nat} {xs : List Nat} {i : Nat} (h : xs.length = 952) (hi : i < 8) : (sectN gen xs i).length = 128 := by
  unfold sectN; simp [putN_len]; omega
theorem sects_len {gen : Nat} {xs : List Nat} (h : xs.length = 952) : (sectsN gen xs 8).length = 1024 := by
  unfold sectsN; rw [flat_len (c := 128) (fun i hi => sectN_len h hi)]
theorem sects_at {gen : Nat} {xs : List Nat} {i : Nat} (h : xs.length = 952) (hi : i < 8) : secAt (sectsN gen xs 8) i = sectN gen xs i := by
  unfold secAt sectsN; exact flat_at (c := 128) (fun i hi => sectN_len h hi) hi
theorem sect_beg {gen : Nat} {xs : List Nat} {i : Nat} (hg : gen < 18446744073709551616) : beg8 (sectN gen xs i) = gen := by
  unfold sectN; rw [List.append_assoc]; exact beg8_put _ hg
theorem sect_eight {gen : Nat} {xs : List Nat} {i : Nat} : (sectN gen xs i).getD 8 0 = i := by
  unfold sectN; simp [putN]
theorem sect_tail {gen : Nat} {xs : List Nat} {i : Nat} : (sectN gen xs i).drop 9 = (xs.drop (i * 119)).take 119 := by
  unfold sectN; simp [putN]
theorem inner_sects {gen : Nat} {xs : List Nat} (h : xs.length = 952) : innerN (sectsN gen xs 8) 8 = xs := by
  unfold innerN
  rw [flat_congr (g := fun i => (xs.drop (i * 119)).take 119) (fun i hi => by rw [sects_at h hi, sect_tail]), chunks xs 119 8]
  exact List.take_of_length_le (by omega)
theorem pad_len {xs : List Nat} (h : xs.length ≤ 952) : (padN xs).length = 952 := by unfold padN; simp; omega
theorem isDir_len {lt : ByteArray → ByteArray → Prop} {x : DirV} {b : List Nat} (h : IsDir lt x b) : b.length = 1024 := by
  obtain ⟨_, h2, rfl⟩ := h
  exact sects_len (pad_len h2)
theorem isDir_sec {lt : ByteArray → ByteArray → Prop} {x : DirV} {b : List Nat} (h : IsDir lt x b) {i : Nat} (hi : i < 8) : beg8 (secAt b i) = x.gen.toNat ∧ (secAt b i).getD 8 0 = i := by
  obtain ⟨h1, h2, rfl⟩ := h
  have := h1.lo
  have := h1.hi
  unfold bytesN
  rw [sects_at (pad_len h2) hi]
  exact ⟨sect_beg (by omega), sect_eight⟩
theorem isDir_inner {lt : ByteArray → ByteArray → Prop} {x : DirV} {b : List Nat} (h : IsDir lt x b) : innerN b 8 = padN (insideN x.files) := by
  obtain ⟨_, h2, rfl⟩ := h
  exact inner_sects (pad_len h2)
theorem isDir_cut {lt : ByteArray → ByteArray → Prop} {B : Bnds} (hB : Bok B) {x : DirV} {b : List Nat} (h : IsDir lt x b) : ∃ r, cutFiles B (innerN b 8) = some (x.files, r) ∧ ∀ c ∈ r, c = 0 := by
  rw [isDir_inner h]
  refine ⟨_, cutFiles_back hB h.1 _, fun c hc => ?_⟩
  exact (List.mem_replicate.1 hc).2
theorem isDir_of {lt : ByteArray → ByteArray → Prop} {B : Bnds} {x : DirV} {b r : List Nat} (hb : Byt b) (hl : b.length = 1024) (hs : ∀ i, i < 8 → beg8 (secAt b i) = x.gen.toNat ∧ (secAt b i).getD 8 0 = i)
    (hc : cutFiles B (innerN b 8) = some (x.files, r)) (hz : ∀ c ∈ r, c = 0) (hm : May lt x) : IsDir lt x b := by
  have hby : Byt (innerN b 8) := by
    intro c hc
    obtain ⟨i, _, h⟩ := List.mem_flatMap.1 hc
    exact hb c (List.mem_of_mem_drop (List.mem_of_mem_take (List.mem_of_mem_drop h)))
  have h1 := cutFiles_only hby hc
  have h2 := innerN_len hl
  rw [h1, List.length_append] at h2
  refine ⟨hm, by omega, ?_⟩
  rw [sects_of hb hl hs]
  unfold bytesN
  congr 1
  rw [h1]
  unfold padN
  congr 1
  rw [List.eq_replicate_iff]
  exact ⟨by omega, hz⟩
theorem isDir_only {lt : ByteArray → ByteArray → Prop} {x y : DirV} {b : List Nat} (hx : IsDir lt x b) (hy : IsDir lt y b) : x = y := by
  have B : Bok ⟨32, 524288, 4096, 4095, 4096⟩ := ⟨by simp, by simp, by simp, by simp, by simp⟩
  obtain ⟨r, h1, _⟩ := isDir_cut B hx
  obtain ⟨r', h2, _⟩ := isDir_cut B hy
  rw [h1] at h2
  simp only [Option.some.injEq, Prod.mk.injEq] at h2
  have g1 := (isDir_sec hx (i := 0) (by omega)).1
  have g2 := (isDir_sec hy (i := 0) (by omega)).1
  have a1 := hx.1.lo
  have a2 := hy.1.lo
  obtain ⟨gx, fx⟩ := x
  obtain ⟨gy, fy⟩ := y
  simp only at h2 g1 g2 a1 a2
  have e : gx = gy := by omega
  rw [h2.1, e]
end Go.Proofs.YtghcmllmbpoidaaGreatDoor
namespace Go.Proofs.YtghcmllmbpoidaaGreatDoor.Rm
open Go.RowKit Go.WideShapes Go.ChangeShapes Go.Deep Go.Joins
def PcsIn (w : World) (q : Option Addr) (l : Pcs) : Prop :=
  0 < l.length → ∃ b o, q = some ⟨b, o, none⟩ ∧ ∀ i, i < l.length → w.cell? ⟨b, o + i * 2, none⟩ = some (.int .i64 (l.getD i (0, 0)).1) ∧ w.cell? ⟨b, o + (i * 2 + 1), none⟩ = some (.int .i64 (l.getD i (0, 0)).2)
def Wf (l : Pcs) : Prop := ∀ y ∈ l, (-9223372036854775808 ≤ y.1 ∧ y.1 ≤ 9223372036854775807) ∧ (-9223372036854775808 ≤ y.2 ∧ y.2 ≤ 9223372036854775807)
structure PIn (w : World) (v : Value) (l : Pcs) : Prop where
  lies : ∃ q c, v = .slice q l.length c ∧ PcsIn w q l ∧ l.length ≤ c ∧ c ≤ maxLen ∧ (q = none → c = 0)
  wf : Wf l
theorem below_alloc (w : World) (o : Obj) : Below w.heap.size w (w.alloc o) := (Below.refl _ _).alloc (Nat.le_refl _) o
theorem lt_heap {w : World} {b : Nat} {o : Obj} (h : w.heap[b]? = some o) : b < w.heap.size := (Array.getElem?_eq_some_iff.1 h).1
theorem below_bt {a b c : World} (h1 : Below a.heap.size a b) (h2 : Below b.heap.size b c) : Below a.heap.size a c := h1.trans (h2.mono h1.size)
theorem PcsIn.below {w w' : World} {q : Option Addr} {l : Pcs} (h : PcsIn w q l) (hb : Below w.heap.size w w') : PcsIn w' q l := by
  intro hp
  obtain ⟨b, o, rfl, hc⟩ := h hp
  refine ⟨b, o, rfl, fun i hi => ?_⟩
  obtain ⟨e0, e1⟩ := hc i hi
  exact ⟨(hb.cell (World.block_lt_of_cell? _ _ e0)).trans e0, (hb.cell (World.block_lt_of_cell? _ _ e1)).trans e1⟩
theorem PIn.below {w w' : World} {v : Value} {l : Pcs} (h : PIn w v l) (hb : Below w.heap.size w w') : PIn w' v l := by
  obtain ⟨q, c, h1, h2, h3⟩ := h.lies
  exact ⟨⟨q, c, h1, h2.below hb, h3⟩, h.wf⟩
theorem PcsIn.addr {w : World} {q : Option Addr} {l : Pcs} (h : PcsIn w q l) (hw : 0 < l.length) : ∃ b o, q = some ⟨b, o, none⟩ := by
  obtain ⟨b, o, e, _⟩ := h hw
  exact ⟨b, o, e⟩
theorem PcsIn.at {w : World} {b o : Nat} {l : Pcs} (h : PcsIn w (some ⟨b, o, none⟩) l) {k : Nat} (hk : k < l.length) :
    w.cell? ⟨b, o + k * 2, none⟩ = some (.int .i64 (l.getD k (0, 0)).1) ∧ w.cell? ⟨b, o + k * 2 + 1, none⟩ = some (.int .i64 (l.getD k (0, 0)).2) := by
  obtain ⟨b', o', e, hc⟩ := h (by omega)
  simp only [Option.some.injEq, Addr.mk.injEq, and_true] at e
  obtain ⟨rfl, rfl⟩ := e
  obtain ⟨h1, h2⟩ := hc k hk
  exact ⟨h1, by rw [Nat.add_assoc]; exact h2⟩
theorem Wf.at {l : Pcs} (h : Wf l) {k : Nat} (hk : k < l.length) : (-9223372036854775808 ≤ (l.getD k (0, 0)).1 ∧ (l.getD k (0, 0)).1 ≤ 9223372036854775807) ∧ (-9223372036854775808 ≤ (l.getD k (0, 0)).2 ∧ (l.getD k (0, 0)).2 ≤ 9223372036854775807) := h _ (getD_mem' hk)
def cellsQ (l : Pcs) : List Value := l.flatMap fun p => [.int .i64 p.1, .int .i64 p.2]
theorem cellsQ_len (l : Pcs) : (cellsQ l).length = l.length * 2 := by
  induction l with
  | nil => rfl
  | cons p l ih => simp only [cellsQ, List.flatMap_cons, List.length_append, List.length_cons] at *; simp at *; omega
theorem cellsQ_app (l m : Pcs) : cellsQ (l ++ m) = cellsQ l ++ cellsQ m := by simp [cellsQ]
theorem cellsQ_at : ∀ (l : Pcs) (i : Nat), i < l.length → (cellsQ l)[i * 2]? = some (.int .i64 (l.getD i (0, 0)).1) ∧ (cellsQ l)[i * 2 + 1]? = some (.int .i64 (l.getD i (0, 0)).2)
  | p :: l, 0, _ => ⟨rfl, rfl⟩
  | p :: l, i + 1, hi => by
    have := cellsQ_at l i (by simpa using hi)
    rw [show (i + 1) * 2 = i * 2 + 1 + 1 from by omega]
    simpa [cellsQ, List.getD] using this
  | [], _, h => by simp at h
theorem cellsQ_oneCell (l : Pcs) : ∀ u ∈ cellsQ l, u.oneCell' = true := by
  intro u hu
  simp only [cellsQ, List.mem_flatMap, List.mem_cons, List.not_mem_nil, or_false] at hu
  obtain ⟨p, _, rfl | rfl⟩ := hu <;> rfl
def POwn (w : World) (base : Nat) (v : Value) (l : Pcs) : Prop := w.ownsRow base 194 2 v l.length (cellsQ l)
theorem pown_nil (w : World) (base : Nat) : POwn w base (.slice none 0 0) [] := World.ownsRow_nil _ _ _ _
theorem POwn.mono {w : World} {base base' : Nat} {v : Value} {l : Pcs} (h : POwn w base v l) (hb : base' ≤ base) : POwn w base' v l := by
  refine ⟨h.1, ?_⟩
  rcases h.2 with h' | ⟨g, cap, cur, h1, h2, h3⟩
  · exact .inl h'
  · exact .inr ⟨g, cap, cur, h1, Nat.le_trans hb h2, h3⟩
theorem POwn.form {w : World} {base : Nat} {v : Value} {l : Pcs} (h : POwn w base v l) : ∃ q m, v = .slice q l.length m ∧ l.length ≤ m ∧ m ≤ maxLen ∧ (q = none → m = 0) := by
  rcases h.2 with ⟨hv, hn⟩ | ⟨g, cap, cur, hv, _, _, h1, h2, _⟩
  · exact ⟨none, 0, by rw [hv, hn], by omega, by unfold maxLen; omega, fun _ => rfl⟩
  · exact ⟨_, cap, hv, h1, h2, fun h => by cases h⟩
theorem POwn.pcs {w : World} {base : Nat} {q : Option Addr} {n m : Nat} {l : Pcs} (h : POwn w base (.slice q n m) l) : PcsIn w q l := by
  intro hp
  rcases h.2 with ⟨_, hn⟩ | ⟨g, cap, cur, hv, hb, hg, hle, hmax, hsz, htk⟩
  · omega
  · simp only [Value.slice.injEq] at hv
    obtain ⟨rfl, rfl, rfl⟩ := hv
    refine ⟨g, 0, rfl, fun i hi => ?_⟩
    obtain ⟨c0, c1⟩ := cellsQ_at l i hi
    exact ⟨by rw [Nat.zero_add, World.ownsRow.cellAt h _ (by omega), c0], by rw [Nat.zero_add, World.ownsRow.cellAt h _ (by omega), c1]⟩
theorem POwn.pin {w : World} {base : Nat} {v : Value} {l : Pcs} (h : POwn w base v l) (hw : Wf l) : PIn w v l := by
  obtain ⟨q, m, rfl, h1, h2, h3⟩ := h.form
  exact ⟨⟨q, m, rfl, h.pcs, h1, h2, h3⟩, hw⟩
theorem POwn.kept {w w' : World} {base : Nat} {v : Value} {l : Pcs} {row : Option Nat} (h : POwn w base v l) (hg : w.grownBy w' row) (hne : v.ownBlock = none ∨ v.ownBlock ≠ row) : POwn w' base v l := World.ownsRow.kept h hg hne
theorem POwn.below {w w' : World} {base : Nat} {v : Value} {l : Pcs} (h : POwn w base v l) (hb : Below w.heap.size w w') : POwn w' base v l := by
  refine ⟨h.1, ?_⟩
  rcases h.2 with h' | ⟨g, cap, cur, h1, h2, h3, h4⟩
  · exact .inl h'
  · exact .inr ⟨g, cap, cur, h1, h2, (hb.block g (lt_heap h3)).trans h3, h4⟩
theorem POwn.lt {w : World} {base : Nat} {v : Value} {l : Pcs} (h : POwn w base v l) : ∀ k, v.ownBlock = some k → base ≤ k ∧ k < w.heap.size := World.ownsRow.lt h
theorem box2 {w wr : World} {a b : Value} {t : TypeId} (h : Below (w.heap.size + 1) (w.alloc (.cells #[a, b] t)) wr) :
    wr.cell? ⟨w.heap.size, 0, none⟩ = some a ∧ wr.cell? ⟨w.heap.size, 1, none⟩ = some b := by
  have hh : wr.heap[w.heap.size]? = some (.cells #[a, b] t (0, 0)) := (h.block _ (by omega)).trans (heap_alloc_new w _)
  exact ⟨cell_of_row _ _ _ _ _ _ hh, cell_of_row _ _ _ _ _ _ hh⟩
theorem box_below {w wr : World} {o : Obj} (h : Below (w.heap.size + 1) (w.alloc o) wr) : Below w.heap.size w wr := (below_alloc w o).trans (h.mono (by omega))
theorem info_piece : (Tryz.prog.info? 194).map (fun i => (i.zero, i.size, i.bytes)) = some (some (.agg #[.int .i64 0, .int .i64 0]), 2, 16) := by kernel_rfl
theorem info_parts' {P : Program} {t : TypeId} {z : Option Value} {s b : Nat} (h : (P.info? t).map (fun i => (i.zero, i.size, i.bytes)) = some (z, s, b)) : ∃ i, P.info? t = some i ∧ i.zero = z ∧ i.size = s ∧ i.bytes = b := by
  cases hi : P.info? t with
  | none => rw [hi] at h; cases h
  | some i => rw [hi] at h; simp at h; exact ⟨i, rfl, h.1, h.2.1, h.2.2⟩
theorem row_full' {w : World} {base e g n : Nat} {xs : List Value} (h : w.ownsRow base e 1 (.slice (some ⟨g, 0, none⟩) n n) n xs) : w.heap[g]? = some (.cells xs.toArray e (0, 0)) := by
  rcases h.2 with ⟨h, _⟩ | ⟨g', cap, cur, hv, _, hg, _, _, hs, ht⟩
  · cases h
  · simp only [Value.slice.injEq, Option.some.injEq, Addr.mk.injEq, and_true, true_and] at hv
    obtain ⟨rfl, rfl⟩ := hv
    rw [hg]
    rw [List.take_of_length_le (by simp; omega)] at ht
    rw [← ht, Array.toArray_toList]
end Go.Proofs.YtghcmllmbpoidaaGreatDoor.Rm
namespace Go.Proofs.YtghcmllmbpoidaaGreatDoor
open Go.RowKit Go.Extern.Stop Go.Stop Go.Extern Rm
inductive Faults : Value → Int → Prop
  | num (e : Int) : Faults (.iface 25 (.int .i64 e)) e
  | more (s : ByteArray) {v : Value} {e : Int} (h : Faults v e) : Faults (.iface 124 (.agg #[.string s, v])) e
theorem Faults.one (s : ByteArray) (e : Int) : Faults (.iface 124 (.agg #[.string s, .iface 25 (.int .i64 e)])) e := .more s (.num e)
theorem rf.typeOf_num (e : Int) (w : World) : (ReflectliteType.typeOf #[.iface 25 (.int .i64 e)]).run Tryz.prog w = .ok (.iface 169 (.agg #[.pointer (some ⟨14, 25, none⟩)])) w := by kernel_rfl
theorem rf.typeOf_fault (v : Value) (w : World) : (ReflectliteType.typeOf #[.iface 124 v]).run Tryz.prog w = .ok (.iface 169 (.agg #[.pointer (some ⟨14, 124, none⟩)])) w := by kernel_rfl
theorem rf.valueOf_ptr (t : Addr) (w : World) : (ReflectliteValue.unpack (.iface 122 (.pointer (some t)))).run Tryz.prog w
    = .ok (.agg #[.pointer (some ⟨14, 122, none⟩), .pointer (some ⟨w.heap.size, 0, none⟩), .int .u64 150]) (w.alloc (.cells #[.pointer (some t)] 122)) := by kernel_rfl
theorem rf.valueOf_num (e : Int) (w : World) : (ReflectliteValue.unpack (.iface 25 (.int .i64 e))).run Tryz.prog w
    = .ok (.agg #[.pointer (some ⟨14, 25, none⟩), .pointer (some ⟨w.heap.size, 0, none⟩), .int .u64 130]) (w.alloc (.cells #[.int .i64 e] 25)) := by kernel_rfl
theorem rf.type_ptr (a : Addr) (w : World) : (ReflectliteValue.methodAny (ReflectliteValue.valueError "reflectlite.Value.Type" 0) (fun t _ _ _ => ReflectliteType.toType t) #[.agg #[.pointer (some ⟨14, 122, none⟩), .pointer (some a), .int .u64 150]]).run Tryz.prog w
    = .ok (.iface 169 (.agg #[.pointer (some ⟨14, 122, none⟩)])) w := by kernel_rfl
theorem rf.methodKind (h : Value) (w : World) : (Go.method 583 169 (.agg #[h]) "Kind").run Tryz.prog w = .ok (355, h) w := by kernel_rfl
theorem rf.methodElem (h : Value) (w : World) : (Go.method 583 169 (.agg #[h]) "Elem").run Tryz.prog w = .ok (369, .agg #[h]) w := by kernel_rfl
theorem rf.methodImpl (h : Value) (w : World) : (Go.method 583 169 (.agg #[h]) "Implements").run Tryz.prog w = .ok (370, .agg #[h]) w := by kernel_rfl
theorem rf.methodAssn (h : Value) (w : World) : (Go.method 583 169 (.agg #[h]) "AssignableTo").run Tryz.prog w = .ok (367, .agg #[h]) w := by kernel_rfl
theorem rf.kind_ptr (w : World) : ((ReflectliteType.abiMethod fun t => (fun a : Nat => Value.int IntKind.u8 (a : Int)) <$> Rtype.kind t) #[.pointer (some ⟨14, 122, none⟩)]).run Tryz.prog w = .ok (.int .u8 22) w := by kernel_rfl
theorem rf.kind_num (w : World) : ((ReflectliteType.abiMethod fun t => (fun a : Nat => Value.int IntKind.u8 (a : Int)) <$> Rtype.kind t) #[.pointer (some ⟨14, 25, none⟩)]).run Tryz.prog w = .ok (.int .u8 2) w := by kernel_rfl
theorem rlm (z : Sem Value) (f : TypeId → Addr → Nat → Nat → Sem Value) (v : Value) :
    ReflectliteValue.method z f #[v] = (do match ← ReflectliteValue.parts v with | none => z | some (t, a, fl) => f t a fl (fl % 32)) := rfl
theorem rf.parts_ptr (a : Addr) (w : World) : (ReflectliteValue.parts (.agg #[.pointer (some ⟨14, 122, none⟩), .pointer (some a), .int .u64 150])).run Tryz.prog w = .ok (some (122, a, 150)) w := by kernel_rfl
theorem rf.isNil (a p : Addr) (W : World) (ha : W.cell? a = some (.pointer (some p))) :
    (ReflectliteValue.method (ReflectliteValue.valueError "reflectlite.Value.IsNil" 0) ReflectliteValue.isNil #[.agg #[.pointer (some ⟨14, 122, none⟩), .pointer (some a), .int .u64 150]]).run Tryz.prog W = .ok (.bool false) W := by
  rw [rlm]
  simp only [Sem.run_bind, rf.parts_ptr, Result.andThen]
  simp [ReflectliteValue.isNil, loadVar, isAgg, underlying, Tryz.underlying122, ha, Result.andThen]
theorem rf.elem_ptr (w : World) : (ReflectliteType.method ReflectliteType.elem #[.agg #[.pointer (some ⟨14, 122, none⟩)]]).run Tryz.prog w = .ok (.iface 169 (.agg #[.pointer (some ⟨14, 25, none⟩)])) w := by kernel_rfl
theorem rf.impl_num (w : World) : (ReflectliteType.relation "Implements" ReflectliteType.implements_ #[.agg #[.pointer (some ⟨14, 25, none⟩)], .iface 169 (.agg #[.pointer (some ⟨14, 45, none⟩)])]).run Tryz.prog w = .ok (.bool true) w := by kernel_rfl
theorem rf.assn_num (w : World) : (ReflectliteType.relation "AssignableTo" ReflectliteType.assignableTo #[.agg #[.pointer (some ⟨14, 25, none⟩)], .iface 169 (.agg #[.pointer (some ⟨14, 25, none⟩)])]).run Tryz.prog w = .ok (.bool true) w := by kernel_rfl
theorem rf.assn_fault (w : World) : (ReflectliteType.relation "AssignableTo" ReflectliteType.assignableTo #[.agg #[.pointer (some ⟨14, 124, none⟩)], .iface 169 (.agg #[.pointer (some ⟨14, 25, none⟩)])]).run Tryz.prog w = .ok (.bool false) w := by kernel_rfl
theorem rf.elemOf (w : World) : (Rtype.elem? 122).run Tryz.prog w = .ok (some 25) w := by kernel_rfl
theorem rf.mk (p : Addr) (w : World) : (ReflectliteValue.mk 25 p ReflectliteValue.flagAddr).run Tryz.prog w = .ok (.agg #[.pointer (some ⟨14, 25, none⟩), .pointer (some p), .int .u64 386]) w := by kernel_rfl
theorem rf.elemV (a p : Addr) (W : World) (ha : W.cell? a = some (.pointer (some p))) :
    (ReflectliteValue.method (ReflectliteValue.valueError "reflectlite.Value.Elem" 0) ReflectliteValue.elem #[.agg #[.pointer (some ⟨14, 122, none⟩), .pointer (some a), .int .u64 150]]).run Tryz.prog W
      = .ok (.agg #[.pointer (some ⟨14, 25, none⟩), .pointer (some p), .int .u64 386]) W := by
  rw [rlm]
  simp only [Sem.run_bind, rf.parts_ptr, Result.andThen]
  simp [ReflectliteValue.elem, loadVar, isAgg, underlying, Tryz.underlying122, ha, Result.andThen, rf.elemOf, rf.mk]
theorem rls (v x : Value) : ReflectliteValue.set #[v, x] = (do
    let (some (dst, a, fl), some (src, b, _)) := (← ReflectliteValue.parts v, ← ReflectliteValue.parts x)
      | unsupported (.noEntry "extern/(internal/reflectlite.Value).Set.zeroValue")
    if fl / ReflectliteValue.flagAddr % 2 == 0 then unsupported (.noEntry "extern/(internal/reflectlite.Value).Set.unaddressable")
    let val ← loadVar src b
    if ← Rtype.directlyAssignable dst src then storeVar dst a val
    else if ← Rtype.implements dst src then
      if (← Rtype.kind src) == 20 then
        match val with
        | .nilIface => unsupported (.noEntry "extern/reflectlite: a nil value of one interface type handed on as a value of another")
        | _ => storeVar dst a val
      else storeVar dst a (.iface src val)
    else panicString ("reflectlite.Set: value of type " ++ (← Rtype.spelt src) ++ " is not assignable to type " ++ (← Rtype.spelt dst))
    pure (.tuple #[])) := rfl
theorem rf.parts_dst (a : Addr) (w : World) : (ReflectliteValue.parts (.agg #[.pointer (some ⟨14, 25, none⟩), .pointer (some a), .int .u64 386])).run Tryz.prog w = .ok (some (25, a, 386)) w := by kernel_rfl
theorem rf.parts_src (a : Addr) (w : World) : (ReflectliteValue.parts (.agg #[.pointer (some ⟨14, 25, none⟩), .pointer (some a), .int .u64 130])).run Tryz.prog w = .ok (some (25, a, 130)) w := by kernel_rfl
theorem rf.direct (w : World) : (Rtype.directlyAssignable 25 25).run Tryz.prog w = .ok true w := by kernel_rfl
theorem rf.set (ta b : Addr) (e : Int) (old : Value) (W : World) (hb : W.cell? b = some (.int .i64 e)) (ht : W.cell? ta = some old) (hf : W.frozen? ta = false) :
    (ReflectliteValue.set #[.agg #[.pointer (some ⟨14, 25, none⟩), .pointer (some ta), .int .u64 386], .agg #[.pointer (some ⟨14, 25, none⟩), .pointer (some b), .int .u64 130]]).run Tryz.prog W
      = .ok (.tuple #[]) (W.setCell ta (.int .i64 e)) := by
  rw [rls]
  simp only [Sem.run_bind, rf.parts_dst, rf.parts_src, Result.andThen]
  simp [ReflectliteValue.flagAddr, loadVar, isAgg, underlying, Tryz.underlying25, hb, Result.andThen, rf.direct, storeVar, Value.cells, storeCells, Addr.add]
  rw [run_store Tryz.prog W ta _ _ (by rfl)]
  simp [ht, hf]
theorem fault_unwrap (s : ByteArray) (v : Value) (w : World) : Calls Tryz.prog 365 #[.agg #[.string s, v]] w fun e w' => e = .returned v ∧ Below w.heap.size w w' := by
  go_enter Tryz.func365, Tryz.ntmps365
  go_wp2
  go_ret
  exact ⟨rfl, below_alloc _ _⟩
def ErrT (w : World) : Prop := w.cell? ⟨0, 0, none⟩ = some (.iface 169 (.agg #[.pointer (some ⟨14, 45, none⟩)]))
theorem ErrT.below {w w' : World} (h : ErrT w) (hb : Below w.heap.size w w') : ErrT w' := (hb.cell (World.block_lt_of_cell? _ _ h)).trans h
theorem rf.noAs (v : Value) (xT : TypeId) (w : World) : (Instr.typeAssert (.iface 124 v) xT 234 true).run Tryz.prog w = .ok (.tuple #[.nilIface, .bool false]) w := run_typeAssert_lacksB Tryz.underlying234 (by kernel_rfl) (by kernel_rfl) v xT w
theorem rf.hasUnw (v : Value) (xT : TypeId) (w : World) : (Instr.typeAssert (.iface 124 v) xT 174 true).run Tryz.prog w = .ok (.tuple #[.iface 124 v, .bool true]) w := run_typeAssert_hasB Tryz.underlying174 (by kernel_rfl) v xT w
theorem rf.methodUnw (s : ByteArray) (v : Value) (w : World) : (Go.method 583 124 (.agg #[.string s, v]) "Unwrap").run Tryz.prog w = .ok (365, .agg #[.string s, v]) w := by kernel_rfl
theorem Faults.iface {v : Value} {e : Int} (h : Faults v e) : ∃ t x, v = .iface t x := by cases h <;> exact ⟨_, _, rfl⟩
set_option maxRecDepth 10000 in
set_option maxHeartbeats 4000000 in
theorem as_any (v : Value) (e : Int) (hv : Faults v e) (t a : Addr) (old : Value) (w : World) (ha : w.cell? a = some (.pointer (some t))) (ht0 : w.cell? t = some old) (hf0 : w.frozen? t = false) :
    Calls Tryz.prog 93 #[v, .iface 122 (.pointer (some t)), .agg #[.pointer (some ⟨14, 122, none⟩), .pointer (some a), .int .u64 150], .iface 169 (.agg #[.pointer (some ⟨14, 25, none⟩)])] w
      fun ev w' => ev = .returned (.bool true) ∧ ∃ w1, w' = w1.setCell t (.int .i64 e) ∧ Below w.heap.size w w1 := by
  have h6 := @run_callFunc_extern Tryz.prog 90 _ (fun args => ReflectliteValue.unpack (args.getD 0 (.tuple #[]))) Tryz.func90 (by kernel_rfl) (by kernel_rfl) (by kernel_rfl) (by kernel_rfl)
  have h10 := @run_callFunc_extern Tryz.prog 57 _ ReflectliteType.typeOf Tryz.func57 (by kernel_rfl) (by kernel_rfl) (by kernel_rfl) (by kernel_rfl)
  have h35 := @run_callFunc_extern Tryz.prog 367 _ (ReflectliteType.relation "AssignableTo" ReflectliteType.assignableTo) Tryz.func367 (by kernel_rfl) (by kernel_rfl) (by kernel_rfl) (by kernel_rfl)
  have h11 := @run_callFunc_extern Tryz.prog 123 _ (ReflectliteValue.method (ReflectliteValue.valueError "reflectlite.Value.Elem" 0) ReflectliteValue.elem) Tryz.func123 (by kernel_rfl) (by kernel_rfl) (by kernel_rfl) (by kernel_rfl)
  have h12 := @run_callFunc_extern Tryz.prog 124 _ ReflectliteValue.set Tryz.func124 (by kernel_rfl) (by kernel_rfl) (by kernel_rfl) (by kernel_rfl)
  have tN := rf.typeOf_num
  have tF := rf.typeOf_fault
  have mA := rf.methodAssn
  have aN := rf.assn_num
  have aF := rf.assn_fault
  have vN := rf.valueOf_num
  have nA := rf.noAs
  have hU := rf.hasUnw
  have mU := rf.methodUnw
  have hta : t.block < w.heap.size := World.block_lt_of_cell? _ _ ht0
  have haa : a.block < w.heap.size := World.block_lt_of_cell? _ _ ha
  go_enter Tryz.func93, Tryz.ntmps93
  go_wp2
  go_loopw [0] (fun x wr => Faults x e ∧ Below (w.heap.size + 1) (w.alloc (.cells #[.pointer (some ⟨14, 122, none⟩), .pointer (some a), .int .u64 150] 186)) wr) (fun x _ => SizeOf.sizeOf x)
  case atStart => exact ⟨hv, Below.refl _ _⟩
  case round =>
    obtain ⟨hx, hbel⟩ := hrel
    have hs := hbel.size
    simp at hs
    have hbox : wr.cell? ⟨w.heap.size, 0, none⟩ = some (.pointer (some ⟨14, 122, none⟩)) ∧ wr.cell? ⟨w.heap.size, 1, none⟩ = some (.pointer (some a)) ∧ wr.cell? ⟨w.heap.size, 2, none⟩ = some (.int .u64 150) := by
      refine ⟨?_, ?_, ?_⟩ <;> (rw [hbel.cell (by simp)]; simp)
    have ht1 : wr.cell? t = some old := (hbel.cell (by omega)).trans ((World.cell?_alloc_lt _ _ t hta).trans ht0)
    have hf1 : wr.frozen? t = false := (hbel.frozen (by omega)).trans ((World.frozen?_alloc_old _ _ t (by omega)).trans hf0)
    cases hx with
    | num =>
      have ha1 : wr.cell? a = some (.pointer (some t)) := (hbel.cell (by omega)).trans ((World.cell?_alloc_lt _ _ a haa).trans ha)
      obtain ⟨c0, c1, c2⟩ := hbox
      have el := rf.elemV a t wr ha1
      have st := rf.set t ⟨wr.heap.size, 0, none⟩ e old (wr.alloc (.cells #[.int .i64 e] 25)) (by simp) (by rw [World.cell?_alloc_lt _ _ t (by omega)]; exact ht1) (by rw [World.frozen?_alloc_old _ _ t (by omega)]; exact hf1)
      go_wp2
      go_ret
      refine ⟨rfl, wr.alloc (.cells #[.int .i64 e] 25), rfl, ?_⟩
      exact ((below_alloc w _).trans (hbel.mono (by omega))).alloc (by omega) _
    | @more s v1 _ hx =>
      obtain ⟨tx, vx, rfl⟩ := hx.iface
      have HX : Hid (Faults (.iface tx vx) e) := hx
      clear hx
      go_wp2_with (go_at_call 365; refine (fault_unwrap _ _ _).mono ?_; rintro e1 w1 ⟨rfl, hb1⟩)
      go_roundw
      case rel => exact ⟨HX.out, hbel.trans (hb1.mono (by omega))⟩
      case measure => simp; omega
set_option maxRecDepth 10000 in
set_option maxHeartbeats 4000000 in
theorem As_any (v : Value) (e : Int) (hv : Faults v e) (t : Addr) (old : Value) (w : World) (hg : ErrT w) (ht0 : w.cell? t = some old) (hf0 : w.frozen? t = false) :
    Calls Tryz.prog 61 #[v, .iface 122 (.pointer (some t))] w fun ev w' => ev = .returned (.bool true) ∧ ∃ w1, w' = w1.setCell t (.int .i64 e) ∧ Below w.heap.size w w1 := by
  have h6 := @run_callFunc_extern Tryz.prog 90 _ (fun args => ReflectliteValue.unpack (args.getD 0 (.tuple #[]))) Tryz.func90 (by kernel_rfl) (by kernel_rfl) (by kernel_rfl) (by kernel_rfl)
  have h7 := @run_callFunc_extern Tryz.prog 91 _ (ReflectliteValue.methodAny (ReflectliteValue.valueError "reflectlite.Value.Type" 0) (fun t _ _ _ => ReflectliteType.toType t)) Tryz.func91 (by kernel_rfl) (by kernel_rfl) (by kernel_rfl) (by kernel_rfl)
  have h8 := @run_callFunc_extern Tryz.prog 92 _ (ReflectliteValue.method (ReflectliteValue.valueError "reflectlite.Value.IsNil" 0) ReflectliteValue.isNil) Tryz.func92 (by kernel_rfl) (by kernel_rfl) (by kernel_rfl) (by kernel_rfl)
  have h27 := @run_callFunc_extern Tryz.prog 355 _ (ReflectliteType.abiMethod fun t => do pure (.int .u8 (← Rtype.kind t))) Tryz.func355 (by kernel_rfl) (by kernel_rfl) (by kernel_rfl) (by kernel_rfl)
  have h37 := @run_callFunc_extern Tryz.prog 369 _ (ReflectliteType.method ReflectliteType.elem) Tryz.func369 (by kernel_rfl) (by kernel_rfl) (by kernel_rfl) (by kernel_rfl)
  have h38 := @run_callFunc_extern Tryz.prog 370 _ (ReflectliteType.relation "Implements" ReflectliteType.implements_) Tryz.func370 (by kernel_rfl) (by kernel_rfl) (by kernel_rfl) (by kernel_rfl)
  have f6 := rf.valueOf_ptr
  have f7 := rf.type_ptr
  have mK := rf.methodKind
  have mE := rf.methodElem
  have mI := rf.methodImpl
  have k27 := rf.kind_ptr
  have k25 := rf.kind_num
  have e27 := rf.elem_ptr
  have i25 := rf.impl_num
  have hta : t.block < w.heap.size := World.block_lt_of_cell? _ _ ht0
  have hlt : 0 < w.heap.size := World.block_lt_of_cell? _ _ hg
  unfold ErrT at hg
  have n8 := rf.isNil ⟨w.heap.size, 0, none⟩ t ((w.alloc (.cells #[.pointer (some t)] 122)).alloc (.cells #[.pointer (some ⟨14, 122, none⟩), .pointer (some ⟨w.heap.size, 0, none⟩), .int .u64 150] 186)) (by simp)
  have hg2 : ((w.alloc (.cells #[.pointer (some t)] 122)).alloc (.cells #[.pointer (some ⟨14, 122, none⟩), .pointer (some ⟨w.heap.size, 0, none⟩), .int .u64 150] 186)).cell? ⟨0, 0, none⟩ = some (.iface 169 (.agg #[.pointer (some ⟨14, 45, none⟩)])) := by
    rw [World.cell?_alloc_lt _ _ ⟨0, 0, none⟩ (by simp), World.cell?_alloc_lt _ _ ⟨0, 0, none⟩ hlt]; exact hg
  have hcall := as_any v e hv t ⟨w.heap.size, 0, none⟩ old ((w.alloc (.cells #[.pointer (some t)] 122)).alloc (.cells #[.pointer (some ⟨14, 122, none⟩), .pointer (some ⟨w.heap.size, 0, none⟩), .int .u64 150] 186)) (by simp)
    (by rw [World.cell?_alloc_lt _ _ t (by simp; omega), World.cell?_alloc_lt _ _ t hta]; exact ht0)
    (by rw [World.frozen?_alloc_old _ _ t (by simp; omega), World.frozen?_alloc_old _ _ t (by omega)]; exact hf0)
  obtain ⟨tx, vx, rfl⟩ := hv.iface
  clear hv hg
  go_enter Tryz.func61, Tryz.ntmps61
  go_wp2_with (go_at_call 93; refine hcall.mono ?_; rintro e1 w1 ⟨rfl, w2, rfl, hb⟩)
  go_ret
  refine ⟨rfl, w2, rfl, ?_⟩
  exact ((below_alloc w _).alloc (by simp) _).trans (hb.mono (by simp; omega))
end Go.Proofs.YtghcmllmbpoidaaGreatDoor
