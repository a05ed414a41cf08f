/-
  A turn that only takes a file away leaves as much more room as the file had; no program is named here.
-/
import Derived.Test.YtkgmhmhphgaclabGreatDoorJ25
namespace Go.Proofs.YtkgmhmhphgaclabGreatDoor
open Go.RowKit Go.WideShapes Rm

/-- A change: a name, the file's bytes, whether it goes. -/
structure ChgV where
  key : ByteArray
  val : List Nat
  gone : Bool
def puttingN (l : List ChgV) : List (ByteArray × List Nat) := (l.filter fun c => !c.gone).map fun c => (c.key, c.val)
def stayN (old : List FileV) (l : List ChgV) : List FileV := old.filter fun f => l.all fun c => decide (c.key ≠ f.name)
theorem mem_stayN {old : List FileV} {l : List ChgV} {f : FileV} : f ∈ stayN old l ↔ f ∈ old ∧ ∀ c ∈ l, c.key ≠ f.name := by
  unfold stayN
  rw [List.mem_filter]
  simp
theorem mem_puttingN {l : List ChgV} {a : ByteArray × List Nat} : a ∈ puttingN l ↔ ∃ c ∈ l, c.gone = false ∧ (c.key, c.val) = a := by
  unfold puttingN
  rw [List.mem_map]
  constructor
  · rintro ⟨c, hc, rfl⟩
    obtain ⟨h1, h2⟩ := List.mem_filter.1 hc
    exact ⟨c, h1, by simpa using h2, rfl⟩
  · rintro ⟨c, h1, h2, rfl⟩
    exact ⟨c, List.mem_filter.2 ⟨h1, by simp [h2]⟩, rfl⟩
def turnsOf (l : List ChgV) : List (ByteArray × Option (ByteArray × List Nat)) := l.map fun c => (c.key, if c.gone = true then none else some (c.key, c.val))
/-- The files behind changes, by the words alone. -/
def wantN (lt : ByteArray → ByteArray → Bool) (old : List (ByteArray × List Nat)) (l : List ChgV) : List (ByteArray × List Nat) := putAll Prod.fst lt (turnsOf l) old
theorem zip_at {α β : Type} {a : List α} {b : List β} (h : a.length = b.length) {i : Nat} (hi : i < a.length) : (a[i], b[i]'(by omega)) ∈ a.zip b := by
  have : (a.zip b)[i]'(by rw [List.length_zip]; omega) = (a[i], b[i]'(by omega)) := List.getElem_zip
  rw [← this]
  exact List.getElem_mem _
theorem holds_new {lt : ByteArray → ByteArray → Bool} (tot : ∀ a b, a ≠ b → lt a b = true ∨ lt b a = true) (irr : ∀ a, lt a a = false) (tr : ∀ a b c, lt a b = true → lt b c = true → lt a c = true)
    {old y placed : List FileV} {l : List ChgV} {bo bn : FileV → List Nat} (hd : l.Pairwise fun c d => c.key ≠ d.key) (ho : old.Pairwise fun f g => lt f.name g.name = true) (hy : y.Pairwise fun f g => lt f.name g.name = true)
    (hm : ∀ f, f ∈ y ↔ f ∈ stayN old l ∨ f ∈ placed) (hp : placed.map FileV.name = (puttingN l).map Prod.fst) (hv : ∀ f v, (f, v) ∈ placed.zip ((puttingN l).map Prod.snd) → bn f = v) (hs : ∀ f ∈ old, bn f = bo f) :
    wantN lt (old.map fun f => (f.name, bo f)) l = y.map fun f => (f.name, bn f) := by
  have hlen : placed.length = (puttingN l).length := by have := congrArg List.length hp; simpa using this
  have hat : ∀ i (hi : i < placed.length), placed[i].name = ((puttingN l)[i]'(by omega)).1 ∧ bn placed[i] = ((puttingN l)[i]'(by omega)).2 := by
    intro i hi
    constructor
    · have h1 : (placed.map FileV.name)[i]'(by simpa using hi) = ((puttingN l).map Prod.fst)[i]'(by simp; omega) := by simp only [hp]
      simpa using h1
    · have h1 := zip_at (a := placed) (b := (puttingN l).map Prod.snd) (by simpa using hlen) hi
      have h2 := hv _ _ h1
      simpa using h2
  unfold wantN
  refine putAll_only tot irr tr ?_ ?_ (List.pairwise_map.2 ho) (List.pairwise_map.2 hy) (fun a => ?_)
  · unfold turnsOf
    exact List.pairwise_map.2 hd
  · intro c hc b hb
    obtain ⟨d, _, rfl⟩ := List.mem_map.1 hc
    simp only at hb ⊢
    split at hb
    · cases hb
    · rw [← Option.some.inj hb]
  · constructor
    · intro ha
      obtain ⟨f, hf, rfl⟩ := List.mem_map.1 ha
      rcases (hm f).1 hf with h | h
      · obtain ⟨h1, h2⟩ := mem_stayN.1 h
        refine .inl ⟨List.mem_map.2 ⟨f, h1, by rw [hs f h1]⟩, fun c hc e => ?_⟩
        obtain ⟨d, hd', rfl⟩ := List.mem_map.1 hc
        exact h2 d hd' e.symm
      · obtain ⟨i, hi, rfl⟩ := List.getElem_of_mem h
        obtain ⟨e1, e2⟩ := hat i hi
        obtain ⟨c, hc, hg, he⟩ := mem_puttingN.1 (List.getElem_mem (l := puttingN l) (n := i) (by omega))
        refine .inr ⟨(c.key, if c.gone = true then none else some (c.key, c.val)), List.mem_map.2 ⟨c, hc, rfl⟩, ?_⟩
        simp only [hg]
        rw [if_neg (by simp), he, e1, e2]
    · rintro (⟨ha, hn⟩ | ⟨c, hc, he⟩)
      · obtain ⟨f, hf, rfl⟩ := List.mem_map.1 ha
        refine List.mem_map.2 ⟨f, (hm f).2 (.inl (mem_stayN.2 ⟨hf, fun c hc e => ?_⟩)), by rw [hs f hf]⟩
        exact hn _ (List.mem_map.2 ⟨c, hc, rfl⟩) e.symm
      · obtain ⟨d, hd', rfl⟩ := List.mem_map.1 hc
        simp only at he
        split at he
        · cases he
        · rename_i hg
          have ha := Option.some.inj he
          have hmem : a ∈ puttingN l := mem_puttingN.2 ⟨d, hd', by simpa using hg, ha⟩
          obtain ⟨i, hi, hia⟩ := List.getElem_of_mem hmem
          obtain ⟨e1, e2⟩ := hat i (by omega)
          refine List.mem_map.2 ⟨placed[i]'(by omega), (hm _).2 (.inr (List.getElem_mem _)), ?_⟩
          rw [e1, e2, hia]
theorem wantN_nil (lt : ByteArray → ByteArray → Bool) (old : List (ByteArray × List Nat)) : wantN lt old [] = old := rfl
/-- Names that rise one by one rise in pairs. -/
theorem rises_pair {lt : ByteArray → ByteArray → Bool} (tr : ∀ a b c, lt a b = true → lt b c = true → lt a c = true) {l : List FileV} (h : Rises (fun a b => lt a b = true) l) : l.Pairwise fun f g => lt f.name g.name = true := by
  have hg : ∀ i (hi : i < l.length), l.getD i zeroF = l[i] := fun i hi => by rw [List.getD_eq_getElem?_getD, List.getElem?_eq_getElem hi]; rfl
  refine List.pairwise_iff_getElem.2 (fun i j hi hj hij => ?_)
  induction j with
  | zero => omega
  | succ j ih =>
    have h1 := h j (by omega)
    rw [hg j (by omega), hg (j + 1) hj] at h1
    rcases Nat.lt_or_ge i j with c | c
    · exact tr _ _ _ (ih (by omega) c) h1
    · obtain rfl : i = j := by omega
      exact h1
/-- The files that are put, and their values. -/
theorem put_names {count : Int} {used : Pcs} {l : List ChgV} {fs : List FileV} (hz : 80 ≤ count ∧ count ≤ 4096) (hu : Rm.Good count used) (h : placeN count used (puttingN l) = .ok fs) : fs.map FileV.name = (puttingN l).map Prod.fst ∧ ∀ f v, (f, v) ∈ fs.zip ((puttingN l).map Prod.snd) → f.size = (v.length : Nat) := by
  obtain ⟨_, h2, _⟩ := place_facts hz hu h
  constructor
  · have := congrArg (List.map Prod.fst) h2
    simpa [List.map_map, Function.comp_def] using this
  · intro f v hfv
    have hlen : fs.length = (puttingN l).length := by have := congrArg List.length h2; simpa using this
    obtain ⟨i, hi, he⟩ := List.getElem_of_mem hfv
    rw [List.length_zip, List.length_map] at hi
    rw [List.getElem_zip] at he
    have h3 : (fs.map fun f => (f.name, f.size))[i]'(by simp; omega) = ((puttingN l).map fun c => (c.1, ((c.2.length : Nat) : Int)))[i]'(by simp; omega) := by simp only [h2]
    simp only [List.getElem_map, Prod.mk.injEq] at h3 he
    rw [← he.1, ← he.2]
    exact h3.2
end Go.Proofs.YtkgmhmhphgaclabGreatDoor
namespace Go.Proofs.YtkgmhmhphgaclabGreatDoor
open Go.RowKit Go.WideShapes Rm Dk

/-- The files of a disk with such a directory: names and bytes. -/
def filesD (D : List Nat) (W : Puts) (x : DirV) : List (ByteArray × List Nat) := x.files.map fun f => (f.name, fileD D W f)
theorem fits_new {lt : ByteArray → ByteArray → Prop} {count : Int} {x y : DirV} {fs : List FileV} (hc : 0 ≤ count ∧ count ≤ 4096) (hy : May lt y) (hm : ∀ f ∈ y.files, f ∈ x.files ∨ f ∈ fs) (hg : Rm.Good count (allPcs x.files ++ allPcs fs)) : errK count (allPcs y.files) = 0 := by
  refine (errK_fits hy.pcs hc).2 (fun p hp => ?_)
  obtain ⟨f, hf, hpf⟩ := List.mem_flatMap.1 hp
  have hpm : p ∈ allPcs x.files ++ allPcs fs := by
    rcases hm f hf with h | h
    · exact List.mem_append.2 (.inl (List.mem_flatMap.2 ⟨f, h, hpf⟩))
    · exact List.mem_append.2 (.inr (List.mem_flatMap.2 ⟨f, h, hpf⟩))
  have := hg.wn p hpm
  unfold Wn at this
  omega
section
variable {lt : ByteArray → ByteArray → Bool} (tot : ∀ a b, a ≠ b → lt a b = true ∨ lt b a = true) (irr : ∀ a, lt a a = false) (tr : ∀ a b c, lt a b = true → lt b c = true → lt a c = true)
include tot irr tr
/-- Behind a loss of power in the midst of a turn. -/
theorem crash_holds {count : Int} {data D : List Nat} {W : Puts} {x y : DirV} {o : Option DirV} {l : List ChgV} {fs : List FileV} {at_ other : Nat} (n : Nat) (keep : List Bool)
    (hao : (at_ = 0 ∧ other = 8) ∨ (at_ = 8 ∧ other = 0)) (ho : Okay count data []) (hc : 96 ≤ count) (hsx : SlotR (fun a b => lt a b = true) count (slotK data [] at_ 8) (some x)) (hso : SlotR (fun a b => lt a b = true) count (slotK data [] other 8) o) (hm : mountS at_ (some x) o = some (x, (at_ : Int)))
    (hy : IsDir (fun a b => lt a b = true) y (bytesN y)) (hxy : x.gen < y.gen) (hg : ∀ i, i < 8 → ((beg8 (secN data (other + i)) : Nat) : Int) ≠ y.gen)
    (hd : l.Pairwise fun c d => c.key ≠ d.key) (hpl : placeN count (allPcs x.files) (puttingN l) = .ok fs) (hmem : ∀ f, f ∈ y.files ↔ f ∈ stayN x.files l ∨ f ∈ fs)
    (hn : n ≤ (turnA (filesA fs ((puttingN l).map Prod.snd)) other y).length) (e : doN count (data, []) ((turnA (filesA fs ((puttingN l).map Prod.snd)) other y).take n) = .ok (D, W)) :
    ∃ o' z s, SlotR (fun a b => lt a b = true) count (slotK (crashN D W keep) [] at_ 8) (some x) ∧ SlotR (fun a b => lt a b = true) count (slotK (crashN D W keep) [] other 8) o' ∧ mountS at_ (some x) o' = some (z, s) ∧
      (filesD (crashN D W keep) [] z = wantN lt (filesD data [] x) l ∨ (n < (turnA (filesA fs ((puttingN l).map Prod.snd)) other y).length ∧ filesD (crashN D W keep) [] z = wantN lt (filesD data [] x) [])) := by
  have hz : 80 ≤ count ∧ count ≤ 4096 := ⟨by omega, ho.hi⟩
  have hgx := (errK_zero hsx.2).2.2
  obtain ⟨p1, p2, p3⟩ := place_facts hz hgx hpl
  obtain ⟨q1, q2⟩ := put_names hz hgx hpl
  have h80 : ∀ p ∈ allPcs fs, 80 ≤ p.1 := fun p hp => by obtain ⟨f, hf, hpf⟩ := List.mem_flatMap.1 hp; exact (p3 f hf).1 p hpf
  have hsub : ∀ f ∈ y.files, f ∈ x.files ∨ f ∈ fs := fun f hf => ((hmem f).1 hf).elim (fun h => .inl (mem_stayN.1 h).1) .inr
  have hfit := fits_new ⟨by omega, hz.2⟩ hy.1 hsub p1
  obtain ⟨o', t1, t2, t3, t4⟩ := turn_files n keep hao ho hc hsx hso hm hy hfit hxy hg p1 h80 (fun f hf => (p3 f hf).2.1) q2 hn e
  have hox := rises_pair tr hsx.1.1.rise
  have hoy := rises_pair tr hy.1.rise
  rcases t4 with ⟨a, b⟩ | ⟨b, c⟩
  · refine ⟨o', x, _, t1, t2, b, .inr ⟨a, ?_⟩⟩
    rw [wantN_nil]
    exact List.map_congr_left (fun f hf => by rw [t3 f hf])
  · refine ⟨o', y, _, t1, t2, b, .inl ?_⟩
    exact (holds_new tot irr tr hd hox hoy hmem q1 c t3).symm
/-- Behind the whole turn. -/
theorem done_holds {count : Int} {data D : List Nat} {ws W : Puts} {x y : DirV} {l : List ChgV} {fs : List FileV} {at_ other : Nat}
    (hao : (at_ = 0 ∧ other = 8) ∨ (at_ = 8 ∧ other = 0)) (ho : Okay count data ws) (hc : 96 ≤ count) (hsx : SlotR (fun a b => lt a b = true) count (slotK data ws at_ 8) (some x))
    (hy : IsDir (fun a b => lt a b = true) y (bytesN y)) (hxy : x.gen < y.gen)
    (hd : l.Pairwise fun c d => c.key ≠ d.key) (hpl : placeN count (allPcs x.files) (puttingN l) = .ok fs) (hmem : ∀ f, f ∈ y.files ↔ f ∈ stayN x.files l ∨ f ∈ fs)
    (e : doN count (data, ws) (turnA (filesA fs ((puttingN l).map Prod.snd)) other y) = .ok (D, W)) :
    SlotR (fun a b => lt a b = true) count (slotK D W at_ 8) (some x) ∧ SlotR (fun a b => lt a b = true) count (slotK D W other 8) (some y) ∧ mountS at_ (some x) (some y) = some (y, (other : Int)) ∧ filesD D W y = wantN lt (filesD data ws x) l := by
  have hz : 80 ≤ count ∧ count ≤ 4096 := ⟨by omega, ho.hi⟩
  have hgx := (errK_zero hsx.2).2.2
  obtain ⟨p1, p2, p3⟩ := place_facts hz hgx hpl
  obtain ⟨q1, q2⟩ := put_names hz hgx hpl
  have h80 : ∀ p ∈ allPcs fs, 80 ≤ p.1 := fun p hp => by obtain ⟨f, hf, hpf⟩ := List.mem_flatMap.1 hp; exact (p3 f hf).1 p hpf
  have hsub : ∀ f ∈ y.files, f ∈ x.files ∨ f ∈ fs := fun f hf => ((hmem f).1 hf).elim (fun h => .inl (mem_stayN.1 h).1) .inr
  have hfit := fits_new ⟨by omega, hz.2⟩ hy.1 hsub p1
  obtain ⟨t1, t2, t3, t4, t5⟩ := turn_done hao ho hc hsx hy hfit hxy p1 h80 (fun f hf => (p3 f hf).2.1) q2 e
  exact ⟨t1, t2, t3, (holds_new tot irr tr hd (rises_pair tr hsx.1.1.rise) (rises_pair tr hy.1.rise) hmem q1 t5 t4).symm⟩
end
end Go.Proofs.YtkgmhmhphgaclabGreatDoor
namespace Go.Proofs.YtkgmhmhphgaclabGreatDoor
open Go.RowKit Go.WideShapes Rm Dk

/-- Behind a turn no write waits. -/
theorem turn_sure {count : Int} {data D : List Nat} {ws W : Puts} {F : Acts} {other : Nat} {y : DirV} (e : doN count (data, ws) (turnA F other y) = .ok (D, W)) : W = [] := by
  unfold turnA at e
  rw [← List.append_assoc, doN_app] at e
  generalize doN count (data, ws) ((if F = [] then [] else F ++ [flA]) ++ slotA other y) = r at e
  cases r with
  | error c => cases e
  | ok s =>
    have h : doN count s [flA] = .ok (settleN s.1 s.2, []) := rfl
    simp only [h, Except.ok.injEq, Prod.mk.injEq] at e
    exact e.2.symm
theorem mount_swap {at_ other : Nat} (hao : (at_ = 0 ∧ other = 8) ∨ (at_ = 8 ∧ other = 0)) (a b : Option DirV) : mountS other b a = mountS at_ a b := by
  rcases hao with ⟨rfl, rfl⟩ | ⟨rfl, rfl⟩ <;> rfl
section
variable {lt : ByteArray → ByteArray → Bool} (tot : ∀ a b, a ≠ b → lt a b = true ∨ lt b a = true) (irr : ∀ a, lt a a = false) (tr : ∀ a b c, lt a b = true → lt b c = true → lt a c = true)
include tot irr tr
theorem twice_holds {count : Int} {data D D2 : List Nat} {W W2 : Puts} {x y u : DirV} {l m : List ChgV} {fs gs : List FileV} {at_ other : Nat} (n : Nat) (keep : List Bool)
    (hao : (at_ = 0 ∧ other = 8) ∨ (at_ = 8 ∧ other = 0)) (ho : Okay count data []) (hc : 96 ≤ count) (hsx : SlotR (fun a b => lt a b = true) count (slotK data [] at_ 8) (some x))
    (hy : IsDir (fun a b => lt a b = true) y (bytesN y)) (hxy : x.gen < y.gen)
    (hd : l.Pairwise fun c d => c.key ≠ d.key) (hpl : placeN count (allPcs x.files) (puttingN l) = .ok fs) (hmem : ∀ f, f ∈ y.files ↔ f ∈ stayN x.files l ∨ f ∈ fs)
    (e : doN count (data, []) (turnA (filesA fs ((puttingN l).map Prod.snd)) other y) = .ok (D, W))
    (hu : IsDir (fun a b => lt a b = true) u (bytesN u)) (hyu : y.gen < u.gen) (hg : ∀ i, i < 8 → ((beg8 (secN D (at_ + i)) : Nat) : Int) ≠ u.gen)
    (hd2 : m.Pairwise fun c d => c.key ≠ d.key) (hpl2 : placeN count (allPcs y.files) (puttingN m) = .ok gs) (hmem2 : ∀ f, f ∈ u.files ↔ f ∈ stayN y.files m ∨ f ∈ gs)
    (hn : n ≤ (turnA (filesA gs ((puttingN m).map Prod.snd)) at_ u).length) (e2 : doN count (D, []) ((turnA (filesA gs ((puttingN m).map Prod.snd)) at_ u).take n) = .ok (D2, W2)) :
    ∃ o' z s, SlotR (fun a b => lt a b = true) count (slotK (crashN D2 W2 keep) [] other 8) (some y) ∧ SlotR (fun a b => lt a b = true) count (slotK (crashN D2 W2 keep) [] at_ 8) o' ∧ mountS other (some y) o' = some (z, s) ∧
      (filesD (crashN D2 W2 keep) [] z = wantN lt (filesD D [] y) m ∨ (n < (turnA (filesA gs ((puttingN m).map Prod.snd)) at_ u).length ∧ filesD (crashN D2 W2 keep) [] z = wantN lt (filesD data [] x) l)) := by
  obtain rfl := turn_sure e
  obtain ⟨d1, d2, d3, d4⟩ := done_holds tot irr tr hao ho hc hsx hy hxy hd hpl hmem e
  have hoD : Okay count D [] := okay_do _ (s := (data, [])) (s' := (D, [])) ho e
  obtain ⟨o', z, s, c1, c2, c3, c4⟩ := crash_holds tot irr tr (at_ := other) (other := at_) (x := y) (o := some x) n keep (by omega) hoD hc d2 d1 (by rw [mount_swap hao]; exact d3) hu hyu hg hd2 hpl2 hmem2 hn e2
  refine ⟨o', z, s, c1, c2, c3, ?_⟩
  rcases c4 with h | ⟨h, h2⟩
  · exact .inl h
  · exact .inr ⟨h, by rw [h2, wantN_nil, d4]⟩
end
end Go.Proofs.YtkgmhmhphgaclabGreatDoor
namespace Go.Proofs.YtkgmhmhphgaclabGreatDoor
open Go.RowKit Go.WideShapes Rm Dk

theorem takenN_cons (f : FileV) (l : List FileV) : takenN (f :: l) = needsN f.size + takenN l := by simp [takenN]
section
variable {lt : ByteArray → ByteArray → Bool} (irr : ∀ a, lt a a = false) (tr : ∀ a b c, lt a b = true → lt b c = true → lt a c = true)
include irr
theorem taken_less : ∀ {l : List FileV} {f : FileV}, l.Pairwise (fun f g => lt f.name g.name = true) → f ∈ l → takenN (stayN l [⟨f.name, [], true⟩]) = takenN l - needsN f.size
  | [], _, _, h => by simp at h
  | g :: l, f, hp, hf => by
    obtain ⟨p1, p2⟩ := List.pairwise_cons.1 hp
    rcases List.mem_cons.1 hf with rfl | hf
    · have e : stayN (f :: l) [⟨f.name, [], true⟩] = l := by
        unfold stayN
        rw [List.filter_cons, if_neg (by simp)]
        refine List.filter_eq_self.2 (fun h hh => ?_)
        have hne : f.name ≠ h.name := fun e => by have := p1 h hh; rw [e, irr] at this; cases this
        simp [hne]
      rw [e, takenN_cons]
      omega
    · have hne : f.name ≠ g.name := fun e => by have := p1 f hf; rw [e, irr] at this; cases this
      have e : stayN (g :: l) [⟨f.name, [], true⟩] = g :: stayN l [⟨f.name, [], true⟩] := by
        unfold stayN
        rw [List.filter_cons, if_pos (by simp [hne])]
      rw [e, takenN_cons, takenN_cons, taken_less p2 hf]
      omega
include tr
theorem room_less {x y : List FileV} {f : FileV} (hx : x.Pairwise fun f g => lt f.name g.name = true) (hy : y.Pairwise fun f g => lt f.name g.name = true) (hf : f ∈ x) (hm : ∀ g, g ∈ y ↔ g ∈ stayN x [⟨f.name, [], true⟩] ∨ g ∈ ([] : List FileV)) : takenN y = takenN x - needsN f.size := by
  have e : y = stayN x [⟨f.name, [], true⟩] := by
    refine rise_ext (R := fun f g : FileV => lt f.name g.name = true) (fun a h => by rw [irr] at h; cases h) (fun a b c => tr _ _ _) hy (hx.sublist List.filter_sublist) (fun g => ?_)
    rw [hm g]
    simp
  rw [e]
  exact taken_less irr hx hf
end
end Go.Proofs.YtkgmhmhphgaclabGreatDoor
