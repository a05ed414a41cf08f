import Derived.Test.YtghcmllmbpoidaaGreatDoorJ12
namespace Go.Proofs.YtghcmllmbpoidaaGreatDoor
set_option maxRecDepth 8000
theorem now_do {count : Int} {s : Nat} {X : List Nat} (hs : (s : Int) < count) : ∀ (C B : Acts) {st st' : List Nat × Puts}, Okay count st.1 st.2 → ((∀ x, (false, (s : Int), x) ∉ B) ∨ nowN st.1 st.2 s = X) → (∀ x, (false, (s : Int), x) ∈ C → x = X) → doN count st C = .ok st' → ((∀ x, (false, (s : Int), x) ∉ B ++ C) ∨ nowN st'.1 st'.2 s = X) := by
  intro C
  induction C with
  | nil =>
    intro B st st' _ h _ e
    simp only [doN, Except.ok.injEq] at e
    subst e
    simpa using h
  | cons a C ih =>
    intro B st st' ho h hX e
    simp only [doN] at e
    cases e1 : stepA count st a with
    | error c => rw [e1] at e; cases e
    | ok s1 =>
      rw [e1] at e
      have h1 : (∀ x, (false, (s : Int), x) ∉ B ++ [a]) ∨ nowN s1.1 s1.2 s = X := by
        have e2 := e1
        unfold stepA at e2
        split at e2
        · rename_i hf
          simp only [Except.ok.injEq] at e2
          subst e2
          rcases h with h | h
          · left
            intro x hx
            rcases List.mem_append.1 hx with hx | hx
            · exact h x hx
            · have := List.mem_singleton.1 hx
              rw [← this] at hf
              cases hf
          · right
            show nowN (settleN st.1 st.2) [] s = X
            rw [now_settled ho hs]
            exact h
        · rename_i hf
          split at e2
          · cases e2
          · split at e2
            · cases e2
            · split at e2
              · cases e2
              · simp only [Except.ok.injEq] at e2
                subst e2
                have hw : nowN st.1 (st.2 ++ [a.2]) s = if a.2.1 = (s : Int) then a.2.2 else nowN st.1 st.2 s := now_written
                by_cases hy : a.2.1 = (s : Int)
                · right
                  show nowN st.1 (st.2 ++ [a.2]) s = X
                  rw [hw, if_pos hy]
                  apply hX
                  refine List.mem_cons.2 (.inl ?_)
                  obtain ⟨b, i, x⟩ := a
                  cases b with
                  | true => exact absurd rfl hf
                  | false => simp only at hy; rw [← hy]
                · rcases h with h | h
                  · left
                    intro x hx
                    rcases List.mem_append.1 hx with hx | hx
                    · exact h x hx
                    · have := List.mem_singleton.1 hx
                      rw [← this] at hy
                      exact hy rfl
                  · right
                    show nowN st.1 (st.2 ++ [a.2]) s = X
                    rw [hw, if_neg hy]
                    exact h
      have := ih (B ++ [a]) (okay_step ho e1) h1 (fun x hx => hX x (List.mem_cons_of_mem _ hx)) e
      simpa using this
end Go.Proofs.YtghcmllmbpoidaaGreatDoor
