/-
  The files of a disk behind changes, as the statements' map2 tells them, are those of the new directory; no program is named here.
-/
import Derived.Test.YtiakfdhbbkpfhaaGreatDoorJ20
namespace Go.Proofs.YtiakfdhbbkpfhaaGreatDoor
open Go.RowKit Go.WideShapes Rm Dk

theorem good_either {count : Int} {l m : Pcs} (h : Rm.Good count (l ++ m)) {n : Int} (hm : cov m n = true) : cov l n = false := by
  refine cov_false.2 fun p hp hn => ?_
  obtain ⟨q, hq, a, b⟩ := cov_iff.1 hm
  have := (List.pairwise_append.1 h.apart).2.2 p hp q hq
  unfold Apart at this
  omega
theorem good_nodup {count : Int} {l : Pcs} (h : Rm.Good count l) : (secs l).Nodup := by
  obtain ⟨s, hp, hu⟩ := sorted_perm l
  have hg := h.perm hp
  have h1 : (secs s).Pairwise (· < ·) := secs_up (hg.chain hu) (fun p hp => by have := hg.wn p hp; unfold Wn at this; omega)
  have h2 : (secs s).Nodup := h1.imp (fun h => by omega)
  exact (List.Perm.flatMap_right _ hp).nodup_iff.2 h2
/-- A sector's part of a file's bytes. -/
def partN (v : List Nat) (k : Nat) : List Nat := (v.drop (k * 128)).take 128 ++ List.replicate (128 - ((v.drop (k * 128)).take 128).length) 0
theorem partN_len (v : List Nat) (k : Nat) : (partN v k).length = 128 := by
  unfold partN
  simp
  omega
def fileA (f : FileV) (v : List Nat) : Acts := (List.range (secs f.pcs).length).map fun k => (false, (secs f.pcs).getD k 0, partN v k)
def filesA : List FileV → List (List Nat) → Acts
  | f :: fs, v :: vs => fileA f v ++ filesA fs vs
  | _, _ => []
theorem fileA_mem {f : FileV} {v : List Nat} {a : Bool × Int × List Nat} (h : a ∈ fileA f v) : ∃ k, k < (secs f.pcs).length ∧ a = (false, (secs f.pcs).getD k 0, partN v k) := by
  obtain ⟨k, hk, e⟩ := List.mem_map.1 h
  exact ⟨k, List.mem_range.1 hk, e.symm⟩
theorem getD_mem2 {l : List Int} {k : Nat} (h : k < l.length) : l.getD k 0 ∈ l := by
  rw [List.getD_eq_getElem?_getD, List.getElem?_eq_getElem h]
  exact List.getElem_mem _
theorem filesA_sec : ∀ {fs : List FileV} {vs : List (List Nat)} {a : Bool × Int × List Nat}, a ∈ filesA fs vs → a.1 = false ∧ a.2.1 ∈ secs (allPcs fs)
  | f :: fs, v :: vs, a, h => by
    have e : secs (allPcs (f :: fs)) = secs f.pcs ++ secs (allPcs fs) := by rw [← secs_append]; simp [allPcs]
    rw [e]
    unfold filesA at h
    rcases List.mem_append.1 h with h | h
    · obtain ⟨k, hk, rfl⟩ := fileA_mem h
      exact ⟨rfl, List.mem_append.2 (.inl (getD_mem2 hk))⟩
    · obtain ⟨h1, h2⟩ := filesA_sec h
      exact ⟨h1, List.mem_append.2 (.inr h2)⟩
  | [], _, a, h => by unfold filesA at h; cases h
  | _ :: _, [], a, h => by unfold filesA at h; cases h
theorem filesA_once : ∀ {fs : List FileV} {vs : List (List Nat)}, (secs (allPcs fs)).Nodup → ∀ (s : Int) (u v : List Nat), (false, s, u) ∈ filesA fs vs → (false, s, v) ∈ filesA fs vs → u = v
  | f :: fs, x :: vs, hn, s, u, v, h1, h2 => by
    have e : secs (allPcs (f :: fs)) = secs f.pcs ++ secs (allPcs fs) := by rw [← secs_append]; simp [allPcs]
    rw [e, List.nodup_append] at hn
    unfold filesA at h1 h2
    rcases List.mem_append.1 h1 with h1 | h1
    · obtain ⟨k, hk, e1⟩ := fileA_mem h1
      simp only [Prod.mk.injEq, true_and] at e1
      rcases List.mem_append.1 h2 with h2 | h2
      · obtain ⟨j, hj, e2⟩ := fileA_mem h2
        simp only [Prod.mk.injEq, true_and] at e2
        have e3 : (secs f.pcs).getD k 0 = (secs f.pcs).getD j 0 := e1.1.symm.trans e2.1
        rw [List.getD_eq_getElem?_getD, List.getElem?_eq_getElem hk, List.getD_eq_getElem?_getD, List.getElem?_eq_getElem hj] at e3
        have : k = j := Classical.byContradiction fun hne => by
          rcases Nat.lt_or_gt_of_ne hne with hlt | hlt
          · exact List.pairwise_iff_getElem.1 hn.1 k j hk hj hlt e3
          · exact List.pairwise_iff_getElem.1 hn.1 j k hj hk hlt e3.symm
        rw [e1.2, e2.2, this]
      · exact absurd rfl (hn.2.2 s (e1.1 ▸ getD_mem2 hk) s (filesA_sec h2).2)
    · rcases List.mem_append.1 h2 with h2 | h2
      · obtain ⟨j, hj, e2⟩ := fileA_mem h2
        simp only [Prod.mk.injEq, true_and] at e2
        exact absurd rfl (hn.2.2 s (e2.1 ▸ getD_mem2 hj) s (filesA_sec h1).2)
      · exact filesA_once hn.2.1 s u v h1 h2
  | [], _, _, s, u, v, h, _ => by unfold filesA at h; cases h
  | _ :: _, [], _, s, u, v, h, _ => by unfold filesA at h; cases h
theorem filesA_acts {count : Int} {x : DirV} {fs : List FileV} {vs : List (List Nat)} (hg : Rm.Good count (allPcs x.files ++ allPcs fs)) (h80 : ∀ p ∈ allPcs fs, 80 ≤ p.1) : FileActs count x (filesA fs vs) := by
  refine ⟨fun a ha => ?_, filesA_once (good_nodup hg.right)⟩
  obtain ⟨h1, h2⟩ := filesA_sec ha
  have hc := mem_secs.1 h2
  obtain ⟨p, hp, b1, b2⟩ := cov_iff.1 hc
  have hw := hg.right.wn p hp
  have h3 := h80 p hp
  unfold Wn at hw
  have e : ((a.2.1.toNat : Nat) : Int) = a.2.1 := by omega
  refine ⟨h1, a.2.1.toNat, e.symm, by omega, by omega, ?_⟩
  rw [e]
  exact good_either hg hc
theorem filesA_in : ∀ {fs : List FileV} {vs : List (List Nat)} {f : FileV} {v : List Nat}, (f, v) ∈ fs.zip vs → ∀ k, k < (secs f.pcs).length → (false, (secs f.pcs).getD k 0, partN v k) ∈ filesA fs vs
  | f :: fs, x :: vs, g, v, h, k, hk => by
    unfold filesA
    rw [List.zip_cons_cons] at h
    rcases List.mem_cons.1 h with h | h
    · simp only [Prod.mk.injEq] at h
      obtain ⟨rfl, rfl⟩ := h
      exact List.mem_append.2 (.inl (List.mem_map.2 ⟨k, List.mem_range.2 hk, rfl⟩))
    · exact List.mem_append.2 (.inr (filesA_in h k hk))
theorem flat_getD {l : List Int} (g : Int → List Nat) : l.flatMap g = (List.range l.length).flatMap fun k => g (l.getD k 0) := by
  induction l with
  | nil => rfl
  | cons n l ih =>
    rw [List.flatMap_cons, ih, List.length_cons, List.range_succ_eq_map, List.flatMap_cons, List.flatMap_map]
    rfl
theorem parts_take (v : List Nat) : ∀ k, ((List.range k).flatMap (partN v)).take v.length = v.take (k * 128)
  | 0 => by simp
  | k + 1 => by
    have ih := parts_take v k
    have hl : ((List.range k).flatMap (partN v)).length = k * 128 := flat_len (fun i _ => partN_len v i)
    rw [List.range_succ, List.flatMap_append, List.take_append, ih, hl]
    simp only [List.flatMap_cons, List.flatMap_nil, List.append_nil]
    by_cases h : v.length ≤ k * 128
    · rw [show v.length - k * 128 = 0 by omega, List.take_zero, List.append_nil, List.take_of_length_le (by omega), List.take_of_length_le (by omega)]
    · have e : (partN v k).take (v.length - k * 128) = (v.drop (k * 128)).take 128 := by
        unfold partN
        rw [List.take_append, List.take_of_length_le (by simp; omega)]
        have : v.length - k * 128 - ((v.drop (k * 128)).take 128).length = 0 ∨ 128 - ((v.drop (k * 128)).take 128).length = 0 := by
          rw [List.length_take, List.length_drop]
          omega
        rcases this with h1 | h1
        · rw [h1, List.take_zero, List.append_nil]
        · rw [h1]; simp
      rw [e, show (k + 1) * 128 = k * 128 + 128 by omega, List.take_add]
/-- A file whose sectors are written has its bytes. -/
theorem file_new {Y : List Nat} {f : FileV} {v : List Nat} (hs : f.size = (v.length : Nat)) (hn : ((secs f.pcs).length : Int) = needsN f.size) (h : ∀ k, k < (secs f.pcs).length → nowN Y [] ((secs f.pcs).getD k 0) = partN v k) : fileD Y [] f = v := by
  unfold fileD secsD
  rw [flat_getD, flat_congr (g := partN v) (fun k hk => h k hk), hs, Int.toNat_natCast, parts_take]
  refine List.take_of_length_le ?_
  unfold needsN at hn
  rw [hs] at hn
  omega
end Go.Proofs.YtiakfdhbbkpfhaaGreatDoor
namespace Go.Proofs.YtiakfdhbbkpfhaaGreatDoor
open Go.RowKit Go.WideShapes Rm Dk

theorem now_empty (Y : List Nat) (n : Int) : nowN Y [] n = secN Y n.toNat := rfl
theorem file_same {Y data : List Nat} {count : Int} {l : List FileV} {f : FileV} (hf : f ∈ l) (hg : Rm.Good count (allPcs l)) (h : ∀ s : Nat, cov (allPcs l) s = true → secN Y s = secN data s) : fileD Y [] f = fileD data [] f := by
  unfold fileD secsD
  congr 1
  rw [flat_getD, flat_getD]
  refine flat_congr fun k hk => ?_
  rw [now_empty, now_empty]
  have hm : (secs f.pcs).getD k 0 ∈ secs f.pcs := getD_mem2 hk
  generalize (secs f.pcs).getD k 0 = n at hm
  obtain ⟨p, hp, a, b⟩ := cov_iff.1 (mem_secs.1 hm)
  have hw := hg.wn p (mem_allPcs hf hp)
  unfold Wn at hw
  refine h n.toNat ?_
  rw [show ((n.toNat : Nat) : Int) = n by omega]
  exact cov_iff.2 ⟨p, mem_allPcs hf hp, a, b⟩
theorem turn_files {lt : ByteArray → ByteArray → Prop} {count : Int} {data D : List Nat} {W : Puts} {x y : DirV} {o : Option DirV} {fs : List FileV} {vs : List (List Nat)} {at_ other : Nat} (n : Nat) (keep : List Bool)
    (hao : (at_ = 0 ∧ other = 8) ∨ (at_ = 8 ∧ other = 0)) (ho : Okay count data []) (hc : 96 ≤ count) (hsx : SlotR lt count (slotK data [] at_ 8) (some x)) (hso : SlotR lt count (slotK data [] other 8) o) (hm : mountS at_ (some x) o = some (x, (at_ : Int)))
    (hy : IsDir lt y (bytesN y)) (hf : errK count (allPcs y.files) = 0) (hxy : x.gen < y.gen) (hg : ∀ i, i < 8 → ((beg8 (secN data (other + i)) : Nat) : Int) ≠ y.gen)
    (hgo : Rm.Good count (allPcs x.files ++ allPcs fs)) (h80 : ∀ p ∈ allPcs fs, 80 ≤ p.1) (hfs : ∀ f ∈ fs, sumC f.pcs = needsN f.size) (hvs : ∀ f v, (f, v) ∈ fs.zip vs → f.size = (v.length : Nat))
    (hn : n ≤ (turnA (filesA fs vs) other y).length) (e : doN count (data, []) ((turnA (filesA fs vs) other y).take n) = .ok (D, W)) :
    ∃ o', SlotR lt count (slotK (crashN D W keep) [] at_ 8) (some x) ∧ SlotR lt count (slotK (crashN D W keep) [] other 8) o' ∧ (∀ f ∈ x.files, fileD (crashN D W keep) [] f = fileD data [] f) ∧
      ((n < (turnA (filesA fs vs) other y).length ∧ mountS at_ (some x) o' = some (x, (at_ : Int))) ∨
       (mountS at_ (some x) o' = some (y, (other : Int)) ∧ ∀ f v, (f, v) ∈ fs.zip vs → fileD (crashN D W keep) [] f = v)) := by
  obtain ⟨o', h1, h2, h3⟩ := turn_broken n keep hao ho hc hsx hso hm hy hf hxy hg (filesA_acts hgo h80) hn e
  have hcov : ∀ s : Nat, cov (allPcs x.files) s = true → secN (crashN D W keep) s = secN data s := by
    rcases h3 with ⟨_, _, h⟩ | ⟨_, _, h⟩
    · exact h
    · exact h
  refine ⟨o', h1, h2, fun f hf' => file_same hf' hgo.left hcov, ?_⟩
  rcases h3 with ⟨h4, h5, _⟩ | ⟨h4, h5, _⟩
  · exact .inl ⟨h4, h5⟩
  · refine .inr ⟨h4, fun f v hz => ?_⟩
    have hff : f ∈ fs := (List.of_mem_zip hz).1
    have hgf : Rm.Good count f.pcs := by
      obtain ⟨a, b, e2⟩ := List.append_of_mem hff
      have e3 : allPcs fs = allPcs a ++ (f.pcs ++ allPcs b) := by rw [e2]; simp [allPcs]
      have := hgo.right
      rw [e3] at this
      exact this.right.left
    have hlen : ((secs f.pcs).length : Int) = needsN f.size := by
      rw [secs_len_sum (fun p hp => by have := hgf.wn p hp; unfold Wn at this; omega)]
      exact hfs f hff
    refine file_new (hvs f v hz) hlen fun k hk => ?_
    have hin := filesA_in hz k hk
    have hm' : (secs f.pcs).getD k 0 ∈ secs f.pcs := getD_mem2 hk
    rw [now_empty]
    generalize (secs f.pcs).getD k 0 = s at hm' hin ⊢
    obtain ⟨p, hp, a, b⟩ := cov_iff.1 (mem_secs.1 hm')
    have hw := hgf.wn p hp
    unfold Wn at hw
    refine h5 s.toNat _ ?_
    rw [show ((s.toNat : Nat) : Int) = s by omega]
    exact hin
end Go.Proofs.YtiakfdhbbkpfhaaGreatDoor
namespace Go.Proofs.YtiakfdhbbkpfhaaGreatDoor
open Go.RowKit Go.WideShapes Rm Dk

theorem now_put {count : Int} {data D : List Nat} {ws W : Puts} {C : Acts} {s : Nat} {X : List Nat} (hs : (s : Int) < count) (ho : Okay count data ws) (e : doN count (data, ws) C = .ok (D, W)) (hX : ∀ x, (false, (s : Int), x) ∈ C → x = X) (hin : (false, (s : Int), X) ∈ C) : nowN D W (s : Int) = X := by
  rcases now_do (X := X) hs C [] (st := (data, ws)) (st' := (D, W)) ho (.inl (fun x hx => by cases hx)) hX e with h | h
  · exact absurd (by simpa using hin) (h X)
  · exact h
theorem now_keep {count : Int} {data D : List Nat} {ws W : Puts} {C : Acts} {s : Nat} (hs : (s : Int) < count) (ho : Okay count data ws) (e : doN count (data, ws) C = .ok (D, W)) (hno : ∀ x, (false, (s : Int), x) ∉ C) : nowN D W (s : Int) = nowN data ws (s : Int) := by
  rcases now_do (X := nowN data ws (s : Int)) hs C [(false, (s : Int), nowN data ws (s : Int))] (st := (data, ws)) (st' := (D, W)) ho (.inr rfl) (fun x hx => absurd hx (hno x)) e with h | h
  · exact absurd (by simp) (h (nowN data ws (s : Int)))
  · exact h
theorem can_do {count : Int} : ∀ {B : Acts} {data : List Nat} {ws : Puts}, (∀ a ∈ B, a.1 = true ∨ (0 ≤ a.2.1 ∧ a.2.1 < count ∧ a.2.2.length = 128)) → ws.length + B.length ≤ 4096 → ∃ D W, doN count (data, ws) B = .ok (D, W)
  | [], data, ws, _, _ => ⟨data, ws, rfl⟩
  | a :: B, data, ws, h, hl => by
    simp only [List.length_cons] at hl
    by_cases hf : a.1 = true
    · obtain ⟨D, W, e⟩ := can_do (B := B) (data := settleN data ws) (ws := []) (fun b hb => h b (List.mem_cons_of_mem _ hb)) (by simp; omega)
      refine ⟨D, W, ?_⟩
      rw [← e]
      show (match stepA count (data, ws) a with | .ok s => doN count s B | .error e => .error e) = _
      unfold stepA
      rw [if_pos hf]
    · obtain ⟨h1, h2, h3⟩ := (h a (by simp)).resolve_left hf
      obtain ⟨D, W, e⟩ := can_do (B := B) (data := data) (ws := ws ++ [a.2]) (fun b hb => h b (List.mem_cons_of_mem _ hb)) (by simp; omega)
      refine ⟨D, W, ?_⟩
      rw [← e]
      show (match stepA count (data, ws) a with | .ok s => doN count s B | .error e => .error e) = _
      unfold stepA
      rw [if_neg hf, if_neg (by simp; omega), if_neg (by simp [h3]), if_neg (by simp; omega)]
theorem file_sameD {D data : List Nat} {W ws : Puts} {count : Int} {l : List FileV} {f : FileV} (hf : f ∈ l) (hg : Rm.Good count (allPcs l)) (h : ∀ s : Nat, cov (allPcs l) s = true → nowN D W (s : Int) = nowN data ws (s : Int)) : fileD D W f = fileD data ws f := by
  unfold fileD secsD
  congr 1
  rw [flat_getD, flat_getD]
  refine flat_congr fun k hk => ?_
  have hm : (secs f.pcs).getD k 0 ∈ secs f.pcs := getD_mem2 hk
  generalize (secs f.pcs).getD k 0 = n at hm
  obtain ⟨p, hp, a, b⟩ := cov_iff.1 (mem_secs.1 hm)
  have hw := hg.wn p (mem_allPcs hf hp)
  unfold Wn at hw
  have := h n.toNat (by rw [show ((n.toNat : Nat) : Int) = n by omega]; exact cov_iff.2 ⟨p, mem_allPcs hf hp, a, b⟩)
  rw [show ((n.toNat : Nat) : Int) = n by omega] at this
  exact this
theorem file_newD {D : List Nat} {W : Puts} {f : FileV} {v : List Nat} (hs : f.size = (v.length : Nat)) (hn : ((secs f.pcs).length : Int) = needsN f.size) (h : ∀ k, k < (secs f.pcs).length → nowN D W ((secs f.pcs).getD k 0) = partN v k) : fileD D W f = v := by
  unfold fileD secsD
  rw [flat_getD, flat_congr (g := partN v) (fun k hk => h k hk), hs, Int.toNat_natCast, parts_take]
  refine List.take_of_length_le ?_
  unfold needsN at hn
  rw [hs] at hn
  omega
theorem turn_done {lt : ByteArray → ByteArray → Prop} {count : Int} {data D : List Nat} {ws W : Puts} {x y : DirV} {fs : List FileV} {vs : List (List Nat)} {at_ other : Nat}
    (hao : (at_ = 0 ∧ other = 8) ∨ (at_ = 8 ∧ other = 0)) (ho : Okay count data ws) (hc : 96 ≤ count) (hsx : SlotR lt count (slotK data ws at_ 8) (some x))
    (hy : IsDir lt y (bytesN y)) (hf : errK count (allPcs y.files) = 0) (hxy : x.gen < y.gen)
    (hgo : Rm.Good count (allPcs x.files ++ allPcs fs)) (h80 : ∀ p ∈ allPcs fs, 80 ≤ p.1) (hfs : ∀ f ∈ fs, sumC f.pcs = needsN f.size) (hvs : ∀ f v, (f, v) ∈ fs.zip vs → f.size = (v.length : Nat))
    (e : doN count (data, ws) (turnA (filesA fs vs) other y) = .ok (D, W)) :
    SlotR lt count (slotK D W at_ 8) (some x) ∧ SlotR lt count (slotK D W other 8) (some y) ∧ mountS at_ (some x) (some y) = some (y, (other : Int)) ∧ (∀ f ∈ x.files, fileD D W f = fileD data ws f) ∧ ∀ f v, (f, v) ∈ fs.zip vs → fileD D W f = v := by
  have hF := filesA_acts (vs := vs) hgo h80
  have hno : ∀ s : Nat, s < at_ + 8 → at_ ≤ s → ∀ X, (false, (s : Int), X) ∉ turnA (filesA fs vs) other y := by
    intro s h1 h2 X h
    rcases turnA_mem h with h | ⟨j, hj, e1, _⟩
    · obtain ⟨_, s', e', h8, _⟩ := hF.each _ h
      simp only at e'
      omega
    · omega
  refine ⟨?_, ?_, ?_, fun f hf' => file_sameD hf' hgo.left fun s hs => ?_, fun f v hz => ?_⟩
  · have : slotK D W at_ 8 = slotK data ws at_ 8 := flat_congr fun i hi => now_keep (by omega) ho e (hno (at_ + i) (by omega) (by omega))
    rw [this]
    exact hsx
  · have : slotK D W other 8 = bytesN y := by
      rw [← eight_secs (bytes_len hy)]
      refine flat_congr fun i hi => now_put (by omega) ho e (fun X hX => ?_) ?_
      · rcases turnA_mem hX with h | ⟨j, hj, e1, e2⟩
        · obtain ⟨_, s', e', h8, _⟩ := hF.each _ h
          simp only at e'
          omega
        · obtain rfl : i = j := by omega
          exact e2
      · unfold turnA
        exact List.mem_append.2 (.inr (List.mem_append.2 (.inl (List.mem_map.2 ⟨i, List.mem_range.2 hi, rfl⟩))))
    rw [this]
    exact ⟨hy, hf⟩
  · unfold mountS
    rcases hao with ⟨rfl, rfl⟩ | ⟨rfl, rfl⟩
    · show (if x.gen < y.gen then some (y, (8 : Int)) else some (x, 0)) = _
      rw [if_pos hxy]; rfl
    · show (if y.gen < x.gen then some (x, (8 : Int)) else some (y, 0)) = _
      rw [if_neg (by omega)]; rfl
  · obtain ⟨p, hp, a, b⟩ := cov_iff.1 hs
    have hw := hgo.left.wn p hp
    obtain ⟨g, hgg, hpg⟩ := List.mem_flatMap.1 hp
    have h8 := (hsx.1.1.each g hgg).2.2.2.1 p hpg
    unfold Wn at hw
    refine now_keep (by omega) ho e fun X hX => ?_
    rcases turnA_mem hX with h | ⟨j, hj, e1, _⟩
    · obtain ⟨_, s', e', _, _, hn'⟩ := hF.each _ h
      simp only at e'
      rw [show (s' : Int) = (s : Int) by omega, hs] at hn'
      cases hn'
    · omega
  · have hff : f ∈ fs := (List.of_mem_zip hz).1
    have hgf : Rm.Good count f.pcs := by
      obtain ⟨a, b, e2⟩ := List.append_of_mem hff
      have e3 : allPcs fs = allPcs a ++ (f.pcs ++ allPcs b) := by rw [e2]; simp [allPcs]
      have := hgo.right
      rw [e3] at this
      exact this.right.left
    have hlen : ((secs f.pcs).length : Int) = needsN f.size := by
      rw [secs_len_sum (fun p hp => by have := hgf.wn p hp; unfold Wn at this; omega)]
      exact hfs f hff
    refine file_newD (hvs f v hz) hlen fun k hk => ?_
    have hin := filesA_in hz k hk
    have hm' : (secs f.pcs).getD k 0 ∈ secs f.pcs := getD_mem2 hk
    generalize (secs f.pcs).getD k 0 = s at hm' hin ⊢
    obtain ⟨p, hp, a, b⟩ := cov_iff.1 (mem_secs.1 hm')
    have hw := hgf.wn p hp
    have h8 := h80 p (mem_allPcs hff hp)
    unfold Wn at hw
    have hcast : ((s.toNat : Nat) : Int) = s := by omega
    have hk' := now_put (s := s.toNat) (X := partN v k) (by omega) ho e (fun X hX => ?_) ?_
    · rw [hcast] at hk'
      exact hk'
    · rcases turnA_mem hX with h | ⟨j, hj, e1, _⟩
      · rw [hcast] at h
        exact hF.once _ _ _ h hin
      · omega
    · rw [hcast]
      unfold turnA
      refine List.mem_append.2 (.inl ?_)
      rw [if_neg (fun h0 => by rw [h0] at hin; cases hin)]
      exact List.mem_append.2 (.inl hin)
end Go.Proofs.YtiakfdhbbkpfhaaGreatDoor
namespace Go.Proofs.YtiakfdhbbkpfhaaGreatDoor
open Go.RowKit Go.WideShapes Rm

/-- A change: a name, the file's bytes, whether it goes. -/
structure ChgV where
  key : ByteArray
  val : List Nat
  gone : Bool
def puttingN (l : List ChgV) : List (ByteArray × List Nat) := (l.filter fun c => !c.gone).map fun c => (c.key, c.val)
def stayN (old : List FileV) (l : List ChgV) : List FileV := old.filter fun f => l.all fun c => decide (c.key ≠ f.name)
theorem mem_stayN {old : List FileV} {l : List ChgV} {f : FileV} : f ∈ stayN old l ↔ f ∈ old ∧ ∀ c ∈ l, c.key ≠ f.name := by
  unfold stayN
  rw [List.mem_filter]
  simp
theorem mem_puttingN {l : List ChgV} {a : ByteArray × List Nat} : a ∈ puttingN l ↔ ∃ c ∈ l, c.gone = false ∧ (c.key, c.val) = a := by
  unfold puttingN
  rw [List.mem_map]
  constructor
  · rintro ⟨c, hc, rfl⟩
    obtain ⟨h1, h2⟩ := List.mem_filter.1 hc
    exact ⟨c, h1, by simpa using h2, rfl⟩
  · rintro ⟨c, h1, h2, rfl⟩
    exact ⟨c, List.mem_filter.2 ⟨h1, by simp [h2]⟩, rfl⟩
def turnsOf (l : List ChgV) : List (ByteArray × Option (ByteArray × List Nat)) := l.map fun c => (c.key, if c.gone = true then none else some (c.key, c.val))
/-- The files behind changes, by the words alone. -/
def wantN (lt : ByteArray → ByteArray → Bool) (old : List (ByteArray × List Nat)) (l : List ChgV) : List (ByteArray × List Nat) := putAll Prod.fst lt (turnsOf l) old
theorem zip_at {α β : Type} {a : List α} {b : List β} (h : a.length = b.length) {i : Nat} (hi : i < a.length) : (a[i], b[i]'(by omega)) ∈ a.zip b := by
  have : (a.zip b)[i]'(by rw [List.length_zip]; omega) = (a[i], b[i]'(by omega)) := List.getElem_zip
  rw [← this]
  exact List.getElem_mem _
theorem holds_new {lt : ByteArray → ByteArray → Bool} (tot : ∀ a b, a ≠ b → lt a b = true ∨ lt b a = true) (irr : ∀ a, lt a a = false) (tr : ∀ a b c, lt a b = true → lt b c = true → lt a c = true)
    {old y placed : List FileV} {l : List ChgV} {bo bn : FileV → List Nat} (hd : l.Pairwise fun c d => c.key ≠ d.key) (ho : old.Pairwise fun f g => lt f.name g.name = true) (hy : y.Pairwise fun f g => lt f.name g.name = true)
    (hm : ∀ f, f ∈ y ↔ f ∈ stayN old l ∨ f ∈ placed) (hp : placed.map FileV.name = (puttingN l).map Prod.fst) (hv : ∀ f v, (f, v) ∈ placed.zip ((puttingN l).map Prod.snd) → bn f = v) (hs : ∀ f ∈ old, bn f = bo f) :
    wantN lt (old.map fun f => (f.name, bo f)) l = y.map fun f => (f.name, bn f) := by
  have hlen : placed.length = (puttingN l).length := by have := congrArg List.length hp; simpa using this
  have hat : ∀ i (hi : i < placed.length), placed[i].name = ((puttingN l)[i]'(by omega)).1 ∧ bn placed[i] = ((puttingN l)[i]'(by omega)).2 := by
    intro i hi
    constructor
    · have h1 : (placed.map FileV.name)[i]'(by simpa using hi) = ((puttingN l).map Prod.fst)[i]'(by simp; omega) := by simp only [hp]
      simpa using h1
    · have h1 := zip_at (a := placed) (b := (puttingN l).map Prod.snd) (by simpa using hlen) hi
      have h2 := hv _ _ h1
      simpa using h2
  unfold wantN
  refine putAll_only tot irr tr ?_ ?_ (List.pairwise_map.2 ho) (List.pairwise_map.2 hy) (fun a => ?_)
  · unfold turnsOf
    exact List.pairwise_map.2 hd
  · intro c hc b hb
    obtain ⟨d, _, rfl⟩ := List.mem_map.1 hc
    simp only at hb ⊢
    split at hb
    · cases hb
    · rw [← Option.some.inj hb]
  · constructor
    · intro ha
      obtain ⟨f, hf, rfl⟩ := List.mem_map.1 ha
      rcases (hm f).1 hf with h | h
      · obtain ⟨h1, h2⟩ := mem_stayN.1 h
        refine .inl ⟨List.mem_map.2 ⟨f, h1, by rw [hs f h1]⟩, fun c hc e => ?_⟩
        obtain ⟨d, hd', rfl⟩ := List.mem_map.1 hc
        exact h2 d hd' e.symm
      · obtain ⟨i, hi, rfl⟩ := List.getElem_of_mem h
        obtain ⟨e1, e2⟩ := hat i hi
        obtain ⟨c, hc, hg, he⟩ := mem_puttingN.1 (List.getElem_mem (l := puttingN l) (n := i) (by omega))
        refine .inr ⟨(c.key, if c.gone = true then none else some (c.key, c.val)), List.mem_map.2 ⟨c, hc, rfl⟩, ?_⟩
        simp only [hg]
        rw [if_neg (by simp), he, e1, e2]
    · rintro (⟨ha, hn⟩ | ⟨c, hc, he⟩)
      · obtain ⟨f, hf, rfl⟩ := List.mem_map.1 ha
        refine List.mem_map.2 ⟨f, (hm f).2 (.inl (mem_stayN.2 ⟨hf, fun c hc e => ?_⟩)), by rw [hs f hf]⟩
        exact hn _ (List.mem_map.2 ⟨c, hc, rfl⟩) e.symm
      · obtain ⟨d, hd', rfl⟩ := List.mem_map.1 hc
        simp only at he
        split at he
        · cases he
        · rename_i hg
          have ha := Option.some.inj he
          have hmem : a ∈ puttingN l := mem_puttingN.2 ⟨d, hd', by simpa using hg, ha⟩
          obtain ⟨i, hi, hia⟩ := List.getElem_of_mem hmem
          obtain ⟨e1, e2⟩ := hat i (by omega)
          refine List.mem_map.2 ⟨placed[i]'(by omega), (hm _).2 (.inr (List.getElem_mem _)), ?_⟩
          rw [e1, e2, hia]
theorem wantN_nil (lt : ByteArray → ByteArray → Bool) (old : List (ByteArray × List Nat)) : wantN lt old [] = old := rfl
/-- Names that rise one by one rise in pairs. -/
theorem rises_pair {lt : ByteArray → ByteArray → Bool} (tr : ∀ a b c, lt a b = true → lt b c = true → lt a c = true) {l : List FileV} (h : Rises (fun a b => lt a b = true) l) : l.Pairwise fun f g => lt f.name g.name = true := by
  have hg : ∀ i (hi : i < l.length), l.getD i zeroF = l[i] := fun i hi => by rw [List.getD_eq_getElem?_getD, List.getElem?_eq_getElem hi]; rfl
  refine List.pairwise_iff_getElem.2 (fun i j hi hj hij => ?_)
  induction j with
  | zero => omega
  | succ j ih =>
    have h1 := h j (by omega)
    rw [hg j (by omega), hg (j + 1) hj] at h1
    rcases Nat.lt_or_ge i j with c | c
    · exact tr _ _ _ (ih (by omega) c) h1
    · obtain rfl : i = j := by omega
      exact h1
/-- The files that are put, and their values. -/
theorem put_names {count : Int} {used : Pcs} {l : List ChgV} {fs : List FileV} (hz : 80 ≤ count ∧ count ≤ 4096) (hu : Rm.Good count used) (h : placeN count used (puttingN l) = .ok fs) : fs.map FileV.name = (puttingN l).map Prod.fst ∧ ∀ f v, (f, v) ∈ fs.zip ((puttingN l).map Prod.snd) → f.size = (v.length : Nat) := by
  obtain ⟨_, h2, _⟩ := place_facts hz hu h
  constructor
  · have := congrArg (List.map Prod.fst) h2
    simpa [List.map_map, Function.comp_def] using this
  · intro f v hfv
    have hlen : fs.length = (puttingN l).length := by have := congrArg List.length h2; simpa using this
    obtain ⟨i, hi, he⟩ := List.getElem_of_mem hfv
    rw [List.length_zip, List.length_map] at hi
    rw [List.getElem_zip] at he
    have h3 : (fs.map fun f => (f.name, f.size))[i]'(by simp; omega) = ((puttingN l).map fun c => (c.1, ((c.2.length : Nat) : Int)))[i]'(by simp; omega) := by simp only [h2]
    simp only [List.getElem_map, Prod.mk.injEq] at h3 he
    rw [← he.1, ← he.2]
    exact h3.2
end Go.Proofs.YtiakfdhbbkpfhaaGreatDoor
