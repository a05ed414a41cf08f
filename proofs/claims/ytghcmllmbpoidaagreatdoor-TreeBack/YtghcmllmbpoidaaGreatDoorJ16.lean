import Derived.Test.YtghcmllmbpoidaaGreatDoorJ15
namespace Go.Proofs.YtghcmllmbpoidaaGreatDoor
open Go.RowKit Go.WideShapes Rm
theorem mountIs_some {count : Int} {data : List Nat} {ws : Puts} {x : DirV} {at_ n : Int} (h : MountIs count data ws (some (x, at_)) n) : May ltS x ∧ errK count (allPcs x.files) = 0 ∧ n = 0 ∧ 96 ≤ count ∧ Okay count data ws := by
  rcases h with ⟨_, h, _⟩ | ⟨_, _, h, _⟩ | ⟨ho, hc, a, b, ha, hb, hr, hn⟩
  · cases h
  · cases h
  · refine ⟨?_, ?_, hn, hc, ho⟩
    · rcases a with _ | x1
      · rcases b with _ | y1
        · cases hr
        · obtain ⟨rfl, _⟩ := Prod.mk.inj (Option.some.inj hr); exact hb.1.1
      · rcases b with _ | y1
        · obtain ⟨rfl, _⟩ := Prod.mk.inj (Option.some.inj hr); exact ha.1.1
        · have hr' : some (x, at_) = if x1.gen < y1.gen then some (y1, (8 : Int)) else some (x1, 0) := hr
          split at hr'
          · obtain ⟨rfl, _⟩ := Prod.mk.inj (Option.some.inj hr'); exact hb.1.1
          · obtain ⟨rfl, _⟩ := Prod.mk.inj (Option.some.inj hr'); exact ha.1.1
    · rcases a with _ | x1
      · rcases b with _ | y1
        · cases hr
        · obtain ⟨rfl, _⟩ := Prod.mk.inj (Option.some.inj hr); exact hb.2
      · rcases b with _ | y1
        · obtain ⟨rfl, _⟩ := Prod.mk.inj (Option.some.inj hr); exact ha.2
        · have hr' : some (x, at_) = if x1.gen < y1.gen then some (y1, (8 : Int)) else some (x1, 0) := hr
          split at hr'
          · obtain ⟨rfl, _⟩ := Prod.mk.inj (Option.some.inj hr'); exact hb.2
          · obtain ⟨rfl, _⟩ := Prod.mk.inj (Option.some.inj hr'); exact ha.2
theorem mountIs_none {count : Int} {data : List Nat} {ws : Puts} {n : Int} (h : MountIs count data ws none n) : n = 20 ∨ n = 40 := by
  rcases h with ⟨_, _, h⟩ | ⟨_, _, _, h⟩ | ⟨_, _, a, b, _, _, hr, hn⟩
  · exact .inl h
  · exact .inr h
  · exact .inr hn
theorem FOwn.files {w : World} {base : Nat} {v : Value} {ls : FPs} {x : DirV} (h : FOwn w base v ls) (hm : May ltS x) (hl : ls.map Prod.fst = x.files) : FIn w v x.files := by
  have hf := hm.fin
  have := h.fin (fun y hy => (hf _ (by rw [← hl]; exact List.mem_map_of_mem hy)).2) (fun y hy => (hf _ (by rw [← hl]; exact List.mem_map_of_mem hy)).1)
  rw [hl] at this
  exact this
theorem FilesIn.file {w : World} {q : Option Addr} {l : List FileV} (h : FilesIn w q l) {i : Nat} (hi : i < l.length) : ∃ b o v, q = some ⟨b, o, none⟩ ∧ w.cell? ⟨b, o + i * 3, none⟩ = some (.string (l.getD i zeroF).name) ∧ w.cell? ⟨b, o + i * 3 + 1, none⟩ = some (.int .i64 (l.getD i zeroF).size) ∧ w.cell? ⟨b, o + i * 3 + 2, none⟩ = some v ∧ PIn w v (l.getD i zeroF).pcs := by
  obtain ⟨b, o, h1, h2⟩ := h (by omega)
  obtain ⟨e1, e2, v, e3, e4⟩ := h2 i hi
  exact ⟨b, o, v, h1, e1, by rw [Nat.add_assoc]; exact e2, by rw [Nat.add_assoc]; exact e3, e4⟩
end Go.Proofs.YtghcmllmbpoidaaGreatDoor
namespace Go.Proofs.YtghcmllmbpoidaaGreatDoor
open Go.RowKit Go.WideShapes Rm Dk
theorem sec_bytes {lt : ByteArray → ByteArray → Prop} {y : DirV} (hy : IsDir lt y (bytesN y)) {i : Nat} (hi : i < 8) : (secAt (bytesN y) i).length = 128 ∧ ((beg8 (secAt (bytesN y) i) : Nat) : Int) = y.gen := by
  have hm := hy.1
  have hl := hy.2.1
  have hp : (padN (insideN y.files)).length = 952 := by unfold padN; simp; omega
  have hs : secAt (bytesN y) i = sectN y.gen.toNat (padN (insideN y.files)) i := by
    unfold secAt bytesN sectsN
    refine flat_at (c := 128) (fun m hm' => ?_) hi
    unfold sectN
    simp [putN_len, hp]
    omega
  have hg : y.gen.toNat < 18446744073709551616 := by have := hm.hi; omega
  have h0 := hm.lo
  refine ⟨?_, ?_⟩
  · rw [hs]
    unfold sectN
    simp [putN_len, hp]
    omega
  · rw [hs]
    unfold sectN
    rw [List.append_assoc, beg8_put _ hg]
    omega
theorem bytes_len {lt : ByteArray → ByteArray → Prop} {y : DirV} (hy : IsDir lt y (bytesN y)) : (bytesN y).length = 1024 := by
  have hl := hy.2.1
  have hp : (padN (insideN y.files)).length = 952 := by unfold padN; simp; omega
  unfold bytesN sectsN
  refine (flat_len (c := 128) (k := 8) (fun m hm' => ?_)).trans rfl
  unfold sectN
  simp [putN_len, hp]
  omega
theorem eight_secs {xs : List Nat} (h : xs.length = 1024) : (List.range 8).flatMap (secAt xs) = xs := by
  have := chunks xs 128 8
  rw [List.take_of_length_le (by omega)] at this
  exact this
end Go.Proofs.YtghcmllmbpoidaaGreatDoor
