/-
  A pool of strings apart from other memory ('Has'): New, Take, Give, Made, Spare, Room by numbers alone.
-/
import Derived.Test.YtkobbilcpgffeaaStGive
import Derived.Test.YtkobbilcpgffeaaHas
namespace Go.Proofs.Ytkobbilcpgffeaa.st
open Go.RowKit
/-- a pool in block r, in which n wait, apart from K. -/
def Has (K : Nat → Prop) (W : World) (r room spare made n : Nat) : Prop := ∃ v bs, PoolI W r room spare made v bs ∧ bs.length = n ∧ ∀ k, foot r v bs k → ¬ K k
namespace Has
variable {K K' : Nat → Prop} {W W' : World} {r room spare made n : Nat}
theorem more (h : Has K W r room spare made n) (hK : ∀ k, K' k → K k ∨ W.heap.size ≤ k) : Has K' W r room spare made n := by
  obtain ⟨v, bs, hp, hn, hf⟩ := h
  refine ⟨v, bs, hp, hn, fun k hk h' => ?_⟩
  rcases hK k h' with h | h
  · exact hf k hk h
  · have := hp.lt hk; omega
theorem keep (h : Has K W r room spare made n) (hk : Keep K' W W') (hK : ∀ k, ¬ K k → K' k) : Has K W' r room spare made n := by
  obtain ⟨v, bs, hp, hn, hf⟩ := h
  exact ⟨v, bs, hp.keep hk fun k h => hK k (hf k h), hn, hf⟩
theorem below (h : Has K W r room spare made n) (hb : Below W.heap.size W W') : Has K W' r room spare made n := by
  obtain ⟨v, bs, hp, hn, hf⟩ := h
  exact ⟨v, bs, hp.keep (K := fun k => k < W.heap.size) (.of_below hb fun _ h => h) fun _ h => hp.lt h, hn, hf⟩
theorem drewN (h : Has K W r room spare made n) (m : Nat) : Has K (W.drewN m) r room spare made n := h.keep (K' := fun _ => True) (.drewN _ _ _) fun _ _ => trivial
theorem lids (h : Has K W r room spare made n) : 1 ≤ room ∧ room ≤ 1024 ∧ spare ≤ 1024 ∧ n ≤ spare := by
  obtain ⟨v, bs, hp, rfl, hf⟩ := h
  exact ⟨hp.low, hp.lid, hp.most, hp.fits⟩
theorem lt (h : Has K W r room spare made n) : r < W.heap.size := by
  obtain ⟨v, bs, hp, rfl, hf⟩ := h
  exact hp.lt (.inl rfl)
theorem room_ (h : Has K W r room spare made n) : Calls Try.prog 17 #[.pointer (some ⟨r, 0, none⟩)] W fun e B => e = .returned (.int .i64 (room : Int)) ∧ B = W := by
  obtain ⟨v, bs, hp, rfl, hf⟩ := h
  exact room_some hp
theorem take (h : Has K W r room spare made n) (hK : ∀ k, K k → k < W.heap.size) (hm : made ≤ 1000000) : Calls Try.prog 16 #[.pointer (some ⟨r, 0, none⟩)] W fun e B => ∃ g, e = .returned (.slice (some ⟨g, 0, none⟩) 0 room) ∧ Has (fun k => K k ∨ k = g) B r room spare (tm made n) (n - 1) ∧ ¬ K g ∧ BufI B g room ∧ Keep K W B := by
  obtain ⟨v, bs, hp, rfl, hf⟩ := h
  by_cases hb : bs.length = 0
  · obtain rfl : bs = [] := List.eq_nil_of_length_eq_zero hb
    refine (take_new hp hm).mono fun e B ⟨he, h1, h2, h3⟩ => ⟨W.heap.size, he, ⟨v, [], h1, rfl, fun k hk h => ?_⟩, fun h => by have := hK _ h; omega, h2, h3.mono fun k _ hk h => hf k h hk⟩
    rcases h with h | rfl
    · exact hf k hk h
    · have := hp.lt hk; omega
  · obtain ⟨cs, g, rfl⟩ : ∃ cs g, bs = cs ++ [g] := ⟨bs.dropLast, bs.getLast (by rintro rfl; exact hb rfl), (List.dropLast_concat_getLast _).symm⟩
    obtain ⟨s, cap, rfl, _⟩ := hp.some_ (by simp)
    have ht : tm made (cs ++ [g]).length = made := by simp [tm]
    simp only [List.length_append, List.length_cons, List.length_nil, Nat.zero_add] at hp hf
    refine (take_old hp).mono fun e B ⟨he, h1, h2, h3, h4⟩ => ⟨g, he, ⟨_, cs, by rw [ht]; exact h1, by simp, fun k hk h => ?_⟩, hf g (.inr (.inr (by simp))), h2, h4.mono fun k _ hk h => hf k h hk⟩
    rcases h with h | rfl
    · refine hf k ?_ h
      rcases hk with hk | hk | hk
      · exact .inl hk
      · exact .inr (.inl hk)
      · exact .inr (.inr (by simp [hk]))
    · exact h3 hk
theorem give {g : Nat} (h : Has (fun k => K k ∨ k = g) W r room spare made n) (hG : BufI W g room) (hg : ¬ K g) (hK : ∀ k, K k → k < W.heap.size) (m : Nat) : Calls Try.prog 18 #[.pointer (some ⟨r, 0, none⟩), .slice (some ⟨g, 0, none⟩) m room] W fun e B => e = .returned (.bool (decide (n < spare))) ∧ Has K B r room spare made (gn n spare) ∧ Keep K W B := by
  obtain ⟨v, bs, hp, rfl, hf⟩ := h
  by_cases hs : bs.length < spare
  · refine (give_ok hp hs hG (fun hk => hf g hk (.inr rfl)) m).mono fun e B ⟨he, v', h1, h2, h3⟩ => ⟨by rw [he, decide_eq_true hs], ⟨v', bs ++ [g], h1, by simp [gn, hs], fun k hk h => ?_⟩, h3.mono fun k _ hk => ⟨fun h => hf k h (.inl hk), fun e => hg (e ▸ hk)⟩⟩
    rcases hk with rfl | hk | hk
    · exact hf _ (.inl rfl) (.inl h)
    · rcases h2 k hk with h' | h'
      · exact hf k (.inr (.inl h')) (.inl h)
      · have := hK k h; omega
    · rcases List.mem_append.1 hk with hk | hk
      · exact hf k (.inr (.inr hk)) (.inl h)
      · rw [List.mem_singleton] at hk
        exact hg (hk ▸ h)
  · refine (give_full hp (by omega) _ m room).mono fun e B ⟨he, q, hq⟩ => ⟨by rw [he, decide_eq_false hs], ?_, hq ▸ Keep.drewN _ _ _⟩
    subst hq
    exact ⟨v, bs, hp.drewN q, by simp [gn, hs], fun k hk h => hf k hk (.inl h)⟩
theorem refuse (h : Has K W r room spare made n) (a : Option Addr) (m c : Nat) (hc : ¬ c = room) : Calls Try.prog 18 #[.pointer (some ⟨r, 0, none⟩), .slice a m c] W fun e B => e = .returned (.bool false) ∧ ∃ q, B = W.drewN q := by
  obtain ⟨v, bs, hp, rfl, hf⟩ := h
  by_cases hs : bs.length < spare
  · exact give_other hp hs a m c hc
  · exact give_full hp (by omega) a m c
end Has
theorem new_has (k s : Int) (rm sp : Nat) (h1 : min (max k 1) 1024 = (rm : Int)) (h2 : min (max s 0) 1024 = (sp : Int)) (w : World) (K : Nat → Prop) (hK : ∀ k, K k → k < w.heap.size) : Calls Try.prog 15 #[.int .i64 k, .int .i64 s] w fun e B => e = .returned (.pointer (some ⟨w.heap.size, 0, none⟩)) ∧ Has K B w.heap.size rm sp 0 0 ∧ Below w.heap.size w B :=
  (new_any k s rm sp h1 h2 w).mono fun e B ⟨he, hp, hb⟩ => ⟨he, ⟨_, [], hp, rfl, fun k hk h => by
    have := hK k h
    rcases hk with rfl | hk | hk
    · omega
    · simp [Value.ownBlock] at hk
    · simp at hk⟩, hb⟩
end Go.Proofs.Ytkobbilcpgffeaa.st
