/-
  Get: the bytes of a file.
-/
import Derived.Test.YtglcpfnpbcnejaaGreatDoorJ30
import Derived.Test.YtglcpfnpbcnejaaGreatDoorJ21
namespace Go.Proofs.YtglcpfnpbcnejaaGreatDoor
open Go.RowKit Go.WideShapes Rm

/-- What Turn answers: its number and its acts. -/
inductive TurnIs (count : Int) (data : List Nat) (ws : Puts) (r : Option (DirV × Int)) (n : Int) (l : List CV) : Int → Acts → Prop
  | none (h : r = none) : TurnIs count data ws r n l n []
  | chg (x : DirV) (at_ E : Int) (h : r = some (x, at_)) (hE : chgE x.files l = E) (h0 : E ≠ 0) : TurnIs count data ws r n l E []
  | many (x : DirV) (at_ : Int) (h : r = some (x, at_)) (hE : chgE x.files l = 0) (hm : 32 < (x.files.filter fun f => !namedC l f.name).length + (putsC l).length) : TurnIs count data ws r n l 42 []
  | place (x : DirV) (at_ E : Int) (h : r = some (x, at_)) (hE : chgE x.files l = 0) (hm : (x.files.filter fun f => !namedC l f.name).length + (putsC l).length ≤ 32) (hp : placeN count (allPcs x.files) (csOf (putsC l)) = .error E) : TurnIs count data ws r n l E []
  | last (x : DirV) (o : Nat) (P : List FileV) (h : r = some (x, 8 - (o : Int))) (ho : o = 0 ∨ o = 8) (hE : chgE x.files l = 0) (hm : (x.files.filter fun f => !namedC l f.name).length + (putsC l).length ≤ 32) (hp : placeN count (allPcs x.files) (csOf (putsC l)) = .ok P) (hG : genK data ws o x.gen 8 + 1 = 4611686018427387904) : TurnIs count data ws r n l 42 []
  | bad (x : DirV) (o : Nat) (P ss : List FileV) (G m : Int) (b : List Nat) (h : r = some (x, 8 - (o : Int))) (ho : o = 0 ∨ o = 8) (hE : chgE x.files l = 0) (hm : (x.files.filter fun f => !namedC l f.name).length + (putsC l).length ≤ 32) (hp : placeN count (allPcs x.files) (csOf (putsC l)) = .ok P) (hG : genK data ws o x.gen 8 + 1 = G) (hG2 : G ≠ 4611686018427387904) (hpm : ((x.files.filter fun f => !namedC l f.name) ++ P).Perm ss) (hup : ss.Pairwise fun x y => Op.bytesLess y.name.toList x.name.toList = false) (hw : Wrote ⟨G, ss⟩ m b) (hm0 : m ≠ 0) : TurnIs count data ws r n l m []
  | ok (x : DirV) (o : Nat) (P ss : List FileV) (G : Int) (b : List Nat) (F : Acts) (h : r = some (x, 8 - (o : Int))) (ho : o = 0 ∨ o = 8) (hE : chgE x.files l = 0) (hm : (x.files.filter fun f => !namedC l f.name).length + (putsC l).length ≤ 32) (hp : placeN count (allPcs x.files) (csOf (putsC l)) = .ok P) (hG : genK data ws o x.gen 8 + 1 = G) (hG2 : G ≠ 4611686018427387904) (hpm : ((x.files.filter fun f => !namedC l f.name) ++ P).Perm ss) (hup : ss.Pairwise fun x y => Op.bytesLess y.name.toList x.name.toList = false) (hw : Wrote ⟨G, ss⟩ 0 b) (hF : filesA P (valsOf (putsC l)) = F) :
      TurnIs count data ws r n l 0 ((if F = [] then [] else F ++ [flA]) ++ (secsA o b 8 ++ [flA]))
/-- What turn leaves in memory. -/
structure TurnOut (w : World) (S : Int → Acts → Prop) (e : Ending) (w' : World) : Prop where
  ex : ∃ m A v ev L, S m A ∧ e = .returned (.tuple #[v, ev]) ∧ ErrV ev m ∧ AOwn w' w.heap.size v L ∧ L.map Prod.fst = A ∧ Below w.heap.size w w'
theorem place_ne : ∀ {count : Int} {cs : List (ByteArray × List Nat)} {used : Pcs} {E : Int}, placeN count used cs = .error E → E ≠ 0
  | count, [], used, E, h => by cases h
  | count, c :: cs, used, E, h => by
    unfold placeN at h
    split at h
    · cases h; decide
    · split at h
      · rename_i h2
        cases h
        exact h2
      · split at h
        · cases h
        · rename_i h3
          cases h
          exact place_ne h3
theorem tErr_out {w : World} {S : Int → Acts → Prop} {m : Int} {e : Ending} {w' : World} (h : TErr w m e w') (hS : S m []) (hm : m ≠ 0) : TurnOut w S e w' := by
  obtain ⟨ev, rfl, hf, hb⟩ := h.ex
  exact ⟨⟨m, [], _, ev, [], hS, rfl, .inr ⟨hm, hf⟩, aown_nil _ _, rfl, hb⟩⟩
theorem turn_any (v : Value) (count : Int) (data : List Nat) (ws : Puts) (lq : Option Addr) (ln lc : Nat) (l : List CV) (w : World) (hL : Laid w) (hd : DiskIn w v count data ws) (r : Option (DirV × Int)) (n : Int) (hm : MountIs count data ws r n)
    (hl : ChgIn w lq ln lc l) (hvs : ∀ y ∈ l, (y.val.size : Int) ≤ 9223372036854775000) :
    Calls Tryz.prog 38 #[v, .slice lq ln lc] w fun e w' => TurnOut w (TurnIs count data ws r n l) e w' := by
  rcases r with _ | ⟨x, at_⟩
  · refine (turn_none v count data ws lq ln lc w hL hd n hm).mono fun e w' h => tErr_out h (.none rfl) ?_
    rcases mountIs_none hm with h | h <;> omega
  · by_cases hE : chgE x.files l = 0
    · by_cases hfew : (x.files.filter fun f => !namedC l f.name).length + (putsC l).length ≤ 32
      · cases hp : placeN count (allPcs x.files) (csOf (putsC l)) with
        | error E => exact (turn_place v count data ws lq ln lc l w hL hd x at_ n hm hl hvs hE hfew E hp).mono fun e w' h => tErr_out h (.place x at_ E rfl hE hfew hp) (place_ne hp)
        | ok P =>
          obtain ⟨o, ho, hoo⟩ : ∃ o : Nat, at_ = 8 - (o : Int) ∧ (o = 0 ∨ o = 8) := by
            rcases mount_at hm with h | h
            · exact ⟨8, by omega, .inr rfl⟩
            · exact ⟨0, by omega, .inl rfl⟩
          subst ho
          refine (turn_go v count data ws lq ln lc l w hL hd x _ n hm hl hvs hE hfew P hp o rfl (by omega) _ rfl _ rfl).mono fun e w' h => ?_
          rcases h.ex with ⟨hG, ht⟩ | ⟨hG, ss, hpm, hup, m, b, hw, ⟨hm0, ht⟩ | ⟨rfl, v', L, rfl, ha, hLm, hb⟩⟩
          · exact tErr_out ht (.last x o P rfl hoo hE hfew hp hG) (by decide)
          · exact tErr_out ht (.bad x o P ss _ m b rfl hoo hE hfew hp rfl hG hpm hup hw hm0) hm0
          · exact ⟨⟨0, _, v', .nilIface, L, .ok x o P ss _ b _ rfl hoo hE hfew hp rfl hG hpm hup hw rfl, rfl, .inl ⟨rfl, rfl⟩, ha, hLm, hb⟩⟩
      · exact (turn_many v count data ws lq ln lc l w hL hd x at_ n hm hl hE (by omega)).mono fun e w' h => tErr_out h (.many x at_ rfl hE (by omega)) (by decide)
    · exact (turn_chg v count data ws lq ln lc l w hL hd x at_ n hm hl.lies hl.len hl.cap hl.fits hl.keys _ rfl hE).mono fun e w' h => tErr_out h (.chg x at_ _ rfl rfl hE) hE
theorem AOwn.set {w : World} {base : Nat} {v : Value} {l : List ActF} (h : AOwn w base v l) {a : Addr} (ha : a.block < base) (x : Value) : AOwn (w.setCell a x) base v l := ⟨ownsRow_setCell_below h.row ha x, fun y hy => ⟨ownsRow_setCell_below (h.data y hy).own ha x, (h.data y hy).byt⟩⟩
end Go.Proofs.YtglcpfnpbcnejaaGreatDoor
namespace Go.Proofs.YtglcpfnpbcnejaaGreatDoor
open Go.RowKit Go.WideShapes Rm

end Go.Proofs.YtglcpfnpbcnejaaGreatDoor
namespace Go.Proofs.YtglcpfnpbcnejaaGreatDoor
open Go.RowKit Go.WideShapes Rm

end Go.Proofs.YtglcpfnpbcnejaaGreatDoor
namespace Go.Proofs.YtglcpfnpbcnejaaGreatDoor
open Go.RowKit Go.WideShapes Rm

end Go.Proofs.YtglcpfnpbcnejaaGreatDoor
