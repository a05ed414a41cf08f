/-
  What is handed in: texts, roles, pairs, acts.
-/
import Derived.Test.YtompcdmjbigigaaRBase
import Derived.Deep.Slices
namespace Go.Proofs.Ytompcdmjbigigaa
open Go.RowKit Go.WideShapes Go.ChangeShapes Go.Deep Go.Joins

section
variable {P : Program} {w : World} {H : Type} {enc : TypeId × Value → H}
theorem open_strs {t e : TypeId} {n : Nat} {v : Value} {x : DataW H × List MemPlace} (ht : P.underlying t = some (.slice e)) (he : P.underlying e = some .string) (hc : P.cellsOf e = 1)
    (h : DataW.trod enc P w 0 (fun _ => true) true n t [v] = some x) : ∃ l q c, v = .slice q l.length c ∧ StrsIn w q l c := by
  rcases open_strings ht he hc h with ⟨hcs, _⟩ | ⟨a, len, cap, ss, hcs, _, hl, hm, hz, _, hcell, hsz⟩
  · simp only [List.cons.injEq, and_true] at hcs
    exact ⟨[], none, 0, hcs, StrsIn.nil w⟩
  · simp only [List.cons.injEq, and_true] at hcs
    have hz' : ss.length = cap := by simpa using hz
    have hlen : (ss.take len).length = len := by simp; omega
    refine ⟨ss.take len, some a, cap, by rw [hlen]; exact hcs, ⟨fun hp => ?_, fun s hs => hsz s (List.mem_of_mem_take hs), by rw [hlen]; exact hl, hm, by simp⟩⟩
    rw [hlen] at hp
    obtain ⟨b, o, s⟩ := a
    obtain rfl : s = none := by simpa [Addr.add] using World.cell?_spot (hcell 0 (by omega))
    refine ⟨b, o, rfl, fun i hi => ?_⟩
    rw [hlen] at hi
    rw [← add_plain, hcell i (by omega)]
    simp [List.getD, List.getElem?_take_of_lt hi]
theorem open_two {t e : TypeId} {n : Nat} {v : Value} {x : DataW H × List MemPlace} (ht : P.underlying t = some (.slice e)) (ce : P.cellsOf e = 2)
    (key : ∀ n a b x, DataW.trod enc P w 0 (fun _ => true) true n e [a, b] = some x → ∃ s1 s2, a = .string s1 ∧ b = .string s2)
    (h : DataW.trod enc P w 0 (fun _ => true) true n t [v] = some x) : ∃ l q c, v = .slice q l.length c ∧ PrsIn w q l c := by
  rcases open_slice ht h with ⟨hcs, _⟩ | ⟨a, len, cap, m, k, D, Pl, hcs, _, hl, hm, hmm, _, hel⟩
  · simp only [List.cons.injEq, and_true] at hcs
    exact ⟨[], none, 0, hcs, ⟨fun h => absurd h (by simp), by simp, by unfold maxLen; omega, fun _ => rfl⟩⟩
  · simp only [List.cons.injEq, and_true] at hcs
    have hmc : m = cap := by simpa using hmm
    have each : ∀ i, i < len → ∃ y : Pr, w.cell? (a.add (i * 2)) = some (.string y.1) ∧ w.cell? (a.add (i * 2 + 1)) = some (.string y.2) := by
      intro i hi
      obtain ⟨cs', g1, g2⟩ := hel i (by omega)
      rw [ce] at g1
      obtain ⟨_, hlen, hcell⟩ := World.cells?_some g1
      match cs', hlen with
      | [v0, v1], _ =>
        obtain ⟨s1, s2, rfl, rfl⟩ := key _ _ _ _ g2
        have e0 := hcell 0 (by omega)
        have e1 := hcell 1 (by omega)
        rw [add_add] at e0 e1
        exact ⟨(s1, s2), by simpa using e0, by simpa using e1⟩
    haveI : Inhabited Pr := ⟨zP⟩
    obtain ⟨f, hf⟩ := choose_lt each
    have hlen : ((List.range len).map f).length = len := by simp
    have hget : ∀ i, i < len → ((List.range len).map f).getD i zP = f i := by intro i hi; simp [List.getD, hi]
    refine ⟨(List.range len).map f, some a, cap, by rw [hlen]; exact hcs, ⟨fun hp => ?_, by rw [hlen]; exact hl, hm, by simp⟩⟩
    rw [hlen] at hp
    obtain ⟨b, o, s⟩ := a
    obtain rfl : s = none := by
      have := World.cell?_spot (hf 0 (by omega)).1
      simpa [Addr.add] using this
    refine ⟨b, o, rfl, fun i hi => ?_⟩
    rw [hlen] at hi
    obtain ⟨e0, e1⟩ := hf i hi
    rw [hget i hi]
    rw [add_plain] at e0 e1
    exact ⟨e0, e1⟩
theorem key_struct {e : TypeId} {f0 f1 : Field} (he : P.underlying e = some (.struct #[f0, f1])) (o0 : f0.offset = 0) (o1 : f1.offset = 1) (c0 : P.cellsOf f0.type = 1) (c1 : P.cellsOf f1.type = 1) (k0 : P.underlying f0.type = some .string) (k1 : P.underlying f1.type = some .string)
    (n : Nat) (a b : Value) (x : DataW H × List MemPlace) (h : DataW.trod enc P w 0 (fun _ => true) true n e [a, b] = some x) : ∃ s1 s2, a = .string s1 ∧ b = .string s2 := by
  obtain ⟨xs, m, _, _, _, hxl, hf⟩ := DataW.trod_struct he h
  match xs, hxl with
  | [y0, y1], _ =>
    have r0 := hf 0 f0 rfl
    have r1 := hf 1 f1 rfl
    simp [o0, o1, c0, c1] at r0 r1
    obtain ⟨s, hs, _, _⟩ := DataW.trod_string k0 r0
    obtain ⟨s', hs', _, _⟩ := DataW.trod_string k1 r1
    simp only [List.cons.injEq, and_true] at hs hs'
    exact ⟨s, s', hs, hs'⟩
theorem key_array {e d : TypeId} (he : P.underlying e = some (.array 2 d)) (cd : P.cellsOf d = 1) (kd : P.underlying d = some .string)
    (n : Nat) (a b : Value) (x : DataW H × List MemPlace) (h : DataW.trod enc P w 0 (fun _ => true) true n e [a, b] = some x) : ∃ s1 s2, a = .string s1 ∧ b = .string s2 := by
  obtain ⟨xs, m, _, _, _, hxl, hf⟩ := DataW.trod_array he h
  match xs, hxl with
  | [y0, y1], _ =>
    have r0 := hf 0 (by omega)
    have r1 := hf 1 (by omega)
    simp [cd] at r0 r1
    obtain ⟨s, hs, _, _⟩ := DataW.trod_string kd r0
    obtain ⟨s', hs', _, _⟩ := DataW.trod_string kd r1
    simp only [List.cons.injEq, and_true] at hs hs'
    exact ⟨s, s', hs, hs'⟩
theorem open_roles {t e ts : TypeId} {f0 f1 f2 : Field} {n : Nat} {v : Value} {x : DataW H × List MemPlace} (ht : P.underlying t = some (.slice e)) (he : P.underlying e = some (.struct #[f0, f1, f2])) (ce : P.cellsOf e = 3)
    (o0 : f0.offset = 0) (o1 : f1.offset = 1) (o2 : f2.offset = 2) (c0 : P.cellsOf f0.type = 1) (c1 : P.cellsOf f1.type = 1) (c2 : P.cellsOf f2.type = 1) (k0 : P.underlying f0.type = some .string)
    {es : TypeId} (t1 : f1.type = ts) (t2 : f2.type = ts) (hts : P.underlying ts = some (.slice es)) (hes : P.underlying es = some .string) (ces : P.cellsOf es = 1)
    (h : DataW.trod enc P w 0 (fun _ => true) true n t [v] = some x) : ∃ l q c, v = .slice q l.length c ∧ RolesIn w q l c := by
  rcases open_slice ht h with ⟨hcs, _⟩ | ⟨a, len, cap, m, k, D, Pl, hcs, _, hl, hm, hmm, _, hel⟩
  · simp only [List.cons.injEq, and_true] at hcs
    exact ⟨[], none, 0, hcs, ⟨fun h => absurd h (by simp), by simp, by unfold maxLen; omega, fun _ => rfl⟩⟩
  · simp only [List.cons.injEq, and_true] at hcs
    have hmc : m = cap := by simpa using hmm
    have each : ∀ i, i < len → ∃ y : Rl, ∃ hq hc mq mc, w.cell? (a.add (i * 3)) = some (.string y.name) ∧ w.cell? (a.add (i * 3 + 1)) = some (.slice hq y.holds.length hc) ∧ w.cell? (a.add (i * 3 + 2)) = some (.slice mq y.may.length mc) ∧ StrsIn w hq y.holds hc ∧ StrsIn w mq y.may mc ∧ y.name.size ≤ maxLen := by
      intro i hi
      obtain ⟨cs', g1, g2⟩ := hel i (by omega)
      rw [ce] at g1
      obtain ⟨_, hlen, hcell⟩ := World.cells?_some g1
      obtain ⟨xs, k', hk, hxy, _, hxl, hf⟩ := DataW.trod_struct he g2
      match xs, hxl, cs', hlen with
      | [y0, y1, y2], _, [v0, v1, v2], _ =>
        have r0 := hf 0 f0 rfl
        have r1 := hf 1 f1 rfl
        have r2 := hf 2 f2 rfl
        simp [o0, o1, o2, c0, c1, c2] at r0 r1 r2
        have e0 := hcell 0 (by omega)
        have e1 := hcell 1 (by omega)
        have e2 := hcell 2 (by omega)
        rw [add_add] at e0 e1 e2
        obtain ⟨s, hs, _, hsz⟩ := DataW.trod_string k0 r0
        simp only [List.cons.injEq, and_true] at hs
        subst hs
        obtain ⟨l1, q1, cc1, rfl, s1⟩ := open_strs (t1 ▸ hts) hes ces r1
        obtain ⟨l2, q2, cc2, rfl, s2⟩ := open_strs (t2 ▸ hts) hes ces r2
        exact ⟨⟨s, l1, l2⟩, q1, cc1, q2, cc2, by simpa using e0, by simpa using e1, by simpa using e2, s1, s2, hsz⟩
    haveI : Inhabited Rl := ⟨zR⟩
    obtain ⟨f, hf⟩ := choose_lt each
    have hlen : ((List.range len).map f).length = len := by simp
    have hget : ∀ i, i < len → ((List.range len).map f).getD i zR = f i := by intro i hi; simp [List.getD, hi]
    refine ⟨(List.range len).map f, some a, cap, by rw [hlen]; exact hcs, ⟨fun hp => ?_, by rw [hlen]; exact hl, hm, by simp⟩⟩
    rw [hlen] at hp
    obtain ⟨b, o, s⟩ := a
    obtain rfl : s = none := by
      obtain ⟨_, _, _, _, h0, _⟩ := hf 0 (by omega)
      simpa [Addr.add] using World.cell?_spot h0
    refine ⟨b, o, rfl, fun i hi => ?_⟩
    rw [hlen] at hi
    obtain ⟨hq, hc, mq, mc, e0, e1, e2, s1, s2, hz⟩ := hf i hi
    rw [hget i hi]
    rw [add_plain] at e0 e1 e2
    exact ⟨hq, hc, mq, mc, e0, e1, e2, s1, s2, hz⟩
end
end Go.Proofs.Ytompcdmjbigigaa
