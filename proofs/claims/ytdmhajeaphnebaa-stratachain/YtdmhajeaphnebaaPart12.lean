/- Tarjan's way in plain mathematics: what stands while the walk goes, and that a circle that is closed gets the least stratum. No walk. Strata by raising, and searches, in plain mathematics. No walk. Names and numbers of predicates, what rules need, strata by names, searches a need at a time: plain mathematics. No walk. Rows of one's own: laws on worlds alone; one more element at a row's end. The walk over a graph in memory, and what its stores do. No walk. -/
import Derived.Test.YtdmhajeaphnebaaPart11
import Derived.KernelRfl
import Derived.Test.YtdmhajeaphnebaaPart05
namespace Go.Proofs.Ytdmhajeaphnebaa.Tj

/-- What a predicate leads to. -/
inductive Rch (nd : Nat → List (Nat × Bool)) : Nat → Nat → Prop
  | refl (a : Nat) : Rch nd a a
  | step {a b : Nat} {e : Nat × Bool} : e ∈ nd a → Rch nd e.1 b → Rch nd a b
theorem Rch.trans {nd : Nat → List (Nat × Bool)} {a b c : Nat} (h : Rch nd a b) (k : Rch nd b c) : Rch nd a c := by
  induction h with
  | refl => exact k
  | step h1 _ ih => exact .step h1 (ih k)
theorem Rch.one {nd : Nat → List (Nat × Bool)} {a : Nat} {e : Nat × Bool} (h : e ∈ nd a) : Rch nd a e.1 := .step h (.refl _)
/-- Strata that may be. -/
def ng (b : Bool) : Int := if b = true then 1 else 0
theorem ng_nn (b : Bool) : 0 ≤ ng b := by unfold ng; split <;> omega
structure Sol (nd : Nat → List (Nat × Bool)) (n : Nat) (t : Nat → Int) : Prop where
  nn : ∀ v, v < n → 0 ≤ t v
  le : ∀ v, v < n → ∀ e ∈ nd v, t e.1 + ng e.2 ≤ t v
theorem Sol.reach {nd : Nat → List (Nat × Bool)} {n : Nat} {t : Nat → Int} (h : Sol nd n t) (hb : ∀ v, v < n → ∀ e ∈ nd v, e.1 < n) {a b : Nat} (r : Rch nd a b) (ha : a < n) : t b ≤ t a := by
  induction r with
  | refl => exact Int.le_refl _
  | @step a b e h1 _ ih =>
    have h2 := ih (hb a ha e h1)
    have h3 := h.le a ha e h1
    have := ng_nn e.2
    omega

/-- The walk: its path, those that are open, of each its next need, when it was met, the earliest it leads to, its stratum. -/
structure Inv (nd : Nat → List (Nat × Bool)) (n : Nat) (path opn : List Nat) (nxt met low : Nat → Nat) (cnt : Nat) (st : Nat → Int) : Prop where
  bnd : ∀ v, v < n → ∀ e ∈ nd v, e.1 < n
  pin : ∀ p ∈ path, p ∈ opn
  on : ∀ v ∈ opn, v < n ∧ met v ≠ 0 ∧ met v ≤ cnt ∧ st v = -1
  cl : ∀ v, v < n → met v ≠ 0 → v ∉ opn → 0 ≤ st v
  un : ∀ v, v < n → met v = 0 → st v = -1
  os : opn.Pairwise (fun a b => met a < met b)
  ps : path.Pairwise (fun a b => met a < met b)
  rp : ∀ p ∈ path, ∀ v ∈ opn, met p ≤ met v → Rch nd p v
  lw : ∀ v ∈ opn, low v ≤ met v ∧ ∃ u ∈ opn, met u = low v ∧ Rch nd v u
  of : ∀ v ∈ opn, v ∉ path → low v < met v ∧ nxt v = (nd v).length ∧ ∃ p ∈ path, met p ≤ met v ∧ low p ≤ low v ∧ ∀ p' ∈ path, met p' ≤ met v → met p' ≤ met p
  ned : ∀ v ∈ opn, ∀ k, k < nxt v → ∀ e, (nd v)[k]? = some e → 0 ≤ st e.1 ∨ (e.1 ∈ opn ∧ low v ≤ met e.1)
  least : ∀ v, v < n → 0 ≤ st v → ∀ t, Sol nd n t → st v ≤ t v
  sat : ∀ v, v < n → 0 ≤ st v → ∀ e ∈ nd v, 0 ≤ st e.1 ∧ st e.1 + ng e.2 ≤ st v
variable {nd : Nat → List (Nat × Bool)} {n : Nat} {path opn : List Nat} {nxt met low : Nat → Nat} {cnt : Nat} {st : Nat → Int}
def up (f : Nat → Nat) (i v : Nat) : Nat → Nat := fun k => if k = i then v else f k
theorem up_s (f : Nat → Nat) (i v : Nat) : up f i v i = v := by simp [up]
theorem up_o (f : Nat → Nat) {i k : Nat} (v : Nat) (h : k ≠ i) : up f i v k = f k := by simp [up, h]

theorem pw_inj {met : Nat → Nat} {a b : Nat} : ∀ (l : List Nat), l.Pairwise (fun a b => met a < met b) → a ∈ l → b ∈ l → met a = met b → a = b
  | [], _, h, _, _ => by cases h
  | x :: r, hp, h1, h2, e => by
    obtain ⟨hx, hr⟩ := List.pairwise_cons.1 hp
    rcases List.mem_cons.1 h1 with e1 | h1
    · rcases List.mem_cons.1 h2 with e2 | h2
      · rw [e1, e2]
      · have := hx b h2; rw [e1] at e; omega
    · rcases List.mem_cons.1 h2 with e2 | h2
      · have := hx a h1; rw [e2] at e; omega
      · exact pw_inj r hr h1 h2 e
theorem Inv.inj (h : Inv nd n path opn nxt met low cnt st) {a b : Nat} (ha : a ∈ opn) (hb : b ∈ opn) (e : met a = met b) : a = b := pw_inj opn h.os ha hb e

theorem Inv.advance (h : Inv nd n path opn nxt met low cnt st) {v : Nat} (hv : v ∈ path) (he : ∀ e, (nd v)[nxt v]? = some e → 0 ≤ st e.1 ∨ (e.1 ∈ opn ∧ low v ≤ met e.1)) : Inv nd n path opn (up nxt v (nxt v + 1)) met low cnt st := by
  refine ⟨h.bnd, h.pin, h.on, h.cl, h.un, h.os, h.ps, h.rp, h.lw, fun w hw hp => ?_, fun w hw k hk e hke => ?_, h.least, h.sat⟩
  · rw [up_o _ _ (fun e => hp (by rw [e]; exact hv))]
    exact h.of w hw hp
  · by_cases e1 : w = v
    · subst e1
      rw [up_s] at hk
      by_cases e2 : k = nxt w
      · subst e2; exact he e hke
      · exact h.ned w hw k (by omega) e hke
    · rw [up_o _ _ e1] at hk
      exact h.ned w hw k hk e hke
theorem Inv.enter (h : Inv nd n path opn nxt met low cnt st) {on : Nat} (hon : on < n) (hm : met on = 0) (hr : ∀ p ∈ path, Rch nd p on) : Inv nd n (path ++ [on]) (opn ++ [on]) (up nxt on 0) (up met on (cnt + 1)) (up low on (cnt + 1)) (cnt + 1) st := by
  have hno : on ∉ opn := fun hh => (h.on on hh).2.1 hm
  have ne : ∀ {v}, v ∈ opn → v ≠ on := fun hv e => hno (e ▸ hv)
  have mo : ∀ {v}, v ∈ opn → up met on (cnt + 1) v = met v := fun hv => up_o _ _ (ne hv)
  have lo : ∀ {v}, v ∈ opn → up low on (cnt + 1) v = low v := fun hv => up_o _ _ (ne hv)
  refine ⟨h.bnd, fun p hp => ?_, fun v hv => ?_, fun v hv hm' ho => ?_, fun v hv hm' => ?_, ?_, ?_, fun p hp v hv hle => ?_, fun v hv => ?_, fun v hv hp => ?_, fun v hv k hk e hke => ?_, h.least, h.sat⟩
  · rcases List.mem_append.1 hp with hp | hp
    · exact List.mem_append_left _ (h.pin p hp)
    · exact List.mem_append_right _ hp
  · rcases List.mem_append.1 hv with hv | hv
    · rw [mo hv]
      obtain ⟨a, b, c, d⟩ := h.on v hv
      exact ⟨a, b, by omega, d⟩
    · have e : v = on := by simpa using hv
      subst e
      rw [up_s]
      exact ⟨hon, by omega, Nat.le_refl _, h.un v hon hm⟩
  · have e : v ≠ on := fun e => ho (by simp [e])
    rw [up_o _ _ e] at hm'
    exact h.cl v hv hm' (fun hh => ho (by simp [hh]))
  · have e : v ≠ on := fun e => by rw [e, up_s] at hm'; omega
    rw [up_o _ _ e] at hm'
    exact h.un v hv hm'
  · refine List.pairwise_append.2 ⟨h.os.imp_of_mem (fun ha hb hlt => by rw [mo ha, mo hb]; exact hlt), by simp, fun a ha b hb => ?_⟩
    have e : b = on := by simpa using hb
    subst e
    rw [mo ha, up_s]
    have := (h.on a ha).2.2.1
    omega
  · refine List.pairwise_append.2 ⟨h.ps.imp_of_mem (fun ha hb hlt => by rw [mo (h.pin _ ha), mo (h.pin _ hb)]; exact hlt), by simp, fun a ha b hb => ?_⟩
    have e : b = on := by simpa using hb
    subst e
    rw [mo (h.pin _ ha), up_s]
    have := (h.on a (h.pin _ ha)).2.2.1
    omega
  · rcases List.mem_append.1 hv with hv | hv
    · rcases List.mem_append.1 hp with hp | hp
      · rw [mo hv, mo (h.pin _ hp)] at hle
        exact h.rp p hp v hv hle
      · have e : p = on := by simpa using hp
        rw [e, up_s, mo hv] at hle
        have := (h.on v hv).2.2.1
        omega
    · have e : v = on := by simpa using hv
      subst e
      rcases List.mem_append.1 hp with hp | hp
      · exact hr p hp
      · have e : p = v := by simpa using hp
        subst e
        exact .refl _
  · rcases List.mem_append.1 hv with hv | hv
    · rw [mo hv, lo hv]
      obtain ⟨h1, u, hu, h2, h3⟩ := h.lw v hv
      exact ⟨h1, u, by simp [hu], by rw [mo hu]; exact h2, h3⟩
    · have e : v = on := by simpa using hv
      subst e
      rw [up_s, up_s]
      exact ⟨Nat.le_refl _, v, by simp, up_s _ _ _, .refl _⟩
  · have e : v ≠ on := fun e => hp (by simp [e])
    have hv' : v ∈ opn := by rcases List.mem_append.1 hv with hv | hv; exact hv; exact absurd (by simpa using hv) e
    have hp' : v ∉ path := fun hh => hp (by simp [hh])
    obtain ⟨h1, h2, p, hpp, h3, h4, h5⟩ := h.of v hv' hp'
    rw [mo hv', lo hv', up_o _ _ e]
    refine ⟨h1, h2, p, by simp [hpp], by rw [mo (h.pin _ hpp)]; exact h3, by rw [lo (h.pin _ hpp)]; exact h4, fun p' hp'' hle => ?_⟩
    rcases List.mem_append.1 hp'' with hq | hq
    · rw [mo (h.pin _ hq)] at hle ⊢
      rw [mo (h.pin _ hpp)]
      exact h5 p' hq hle
    · have e : p' = on := by simpa using hq
      subst e
      rw [up_s] at hle
      have := (h.on v hv').2.2.1
      omega
  · rcases List.mem_append.1 hv with hv | hv
    · rw [up_o _ _ (ne hv)] at hk
      rw [lo hv]
      rcases h.ned v hv k hk e hke with h1 | ⟨h1, h2⟩
      · exact .inl h1
      · exact .inr ⟨by simp [h1], by rw [mo h1]; exact h2⟩
    · have e' : v = on := by simpa using hv
      subst e'
      rw [up_s] at hk
      omega
theorem Inv.lower (h : Inv nd n path opn nxt met low cnt st) {v on : Nat} (hv : v ∈ path) (hon : on ∈ opn) (hr : Rch nd v on) : Inv nd n path opn nxt met (up low v (min (low v) (met on))) cnt st := by
  have le : ∀ w, up low v (min (low v) (met on)) w ≤ low w := fun w => by
    by_cases e : w = v
    · subst e; rw [up_s]; omega
    · rw [up_o _ _ e]; exact Nat.le_refl _
  refine ⟨h.bnd, h.pin, h.on, h.cl, h.un, h.os, h.ps, h.rp, fun w hw => ?_, fun w hw hp => ?_, fun w hw k hk e hke => ?_, h.least, h.sat⟩
  · obtain ⟨h1, u, hu, h2, h3⟩ := h.lw w hw
    by_cases e : w = v
    · subst e
      rw [up_s]
      by_cases hm : low w ≤ met on
      · rw [Nat.min_eq_left hm]; exact ⟨h1, u, hu, h2, h3⟩
      · rw [Nat.min_eq_right (by omega)]; exact ⟨by omega, on, hon, rfl, hr⟩
    · rw [up_o _ _ e]; exact ⟨h1, u, hu, h2, h3⟩
  · have e : w ≠ v := fun e => hp (e ▸ hv)
    obtain ⟨h1, h2, p, hpp, h3, h4, h5⟩ := h.of w hw hp
    rw [up_o _ _ e]
    exact ⟨h1, h2, p, hpp, h3, Nat.le_trans (le p) h4, h5⟩
  · rcases h.ned w hw k hk e hke with h1 | ⟨h1, h2⟩
    · exact .inl h1
    · exact .inr ⟨h1, Nat.le_trans (le w) h2⟩
theorem Inv.pop {id b : Nat} (h : Inv nd n (path ++ [id]) opn nxt met low cnt st) (hf : nxt id = (nd id).length) (hl : low id < met id) (hb : b ∈ path) (hm : ∀ p ∈ path, met p ≤ met b) (hlb : low b ≤ low id) : Inv nd n path opn nxt met low cnt st := by
  have hid : id ∈ opn := h.pin id (by simp)
  have htop : ∀ p ∈ path, met p < met id := fun p hp => (List.pairwise_append.1 h.ps).2.2 p hp id (by simp)
  refine ⟨h.bnd, fun p hp => h.pin p (by simp [hp]), h.on, h.cl, h.un, h.os, (List.pairwise_append.1 h.ps).1, fun p hp => h.rp p (by simp [hp]), h.lw, fun v hv hp => ?_, h.ned, h.least, h.sat⟩
  by_cases e : v = id
  · subst e
    exact ⟨hl, hf, b, hb, Nat.le_of_lt (htop b hb), hlb, fun p' hp' _ => hm p' hp'⟩
  · obtain ⟨h1, h2, p, hpp, h3, h4, h5⟩ := h.of v hv (by simp [hp, e])
    rcases List.mem_append.1 hpp with hq | hq
    · exact ⟨h1, h2, p, hq, h3, h4, fun p' hp' => h5 p' (by simp [hp'])⟩
    · have e2 : p = id := by simpa using hq
      subst e2
      have := htop b hb
      exact ⟨h1, h2, b, hb, by omega, by omega, fun p' hp' _ => hm p' hp'⟩
/-- Of a path of one alone that one leads to none ahead of it. -/
theorem Inv.root {id : Nat} (h : Inv nd n [id] opn nxt met low cnt st) : low id = met id := by
  have hid : id ∈ opn := h.pin id (by simp)
  obtain ⟨h1, u, hu, h2, h3⟩ := h.lw id hid
  by_cases e : u = id
  · subst e; omega
  · obtain ⟨_, _, p, hpp, h4, _, _⟩ := h.of u hu (by simp [e])
    have e2 : p = id := by simpa using hpp
    subst e2
    omega
/-- The circle of one that leads to none ahead of it. -/
theorem Inv.circle {id : Nat} (h : Inv nd n (path ++ [id]) opn nxt met low cnt st) (hf : nxt id = (nd id).length) (hl : low id = met id) : (∀ v ∈ opn, met id ≤ met v → Rch nd id v ∧ Rch nd v id) ∧ (∀ v ∈ opn, met id ≤ met v → ∀ e ∈ nd v, 0 ≤ st e.1 ∨ (e.1 ∈ opn ∧ met id ≤ met e.1)) := by
  have hid : id ∈ opn := h.pin id (by simp)
  have htop : ∀ p ∈ path, met p < met id := fun p hp => (List.pairwise_append.1 h.ps).2.2 p hp id (by simp)
  have hoff : ∀ v ∈ opn, met id ≤ met v → v ≠ id → v ∉ path ++ [id] := fun v hv hm hne hp => by
    rcases List.mem_append.1 hp with hp | hp
    · have := htop v hp; omega
    · exact hne (by simpa using hp)
  have hlow : ∀ v ∈ opn, met id ≤ met v → met id ≤ low v := fun v hv hm => by
    by_cases e : v = id
    · subst e; omega
    · obtain ⟨_, _, p, hpp, h3, h4, h5⟩ := h.of v hv (hoff v hv hm e)
      have h6 := h5 id (by simp) hm
      have e2 : p = id := by
        rcases List.mem_append.1 hpp with hq | hq
        · have := htop p hq; omega
        · simpa using hq
      subst e2
      omega
  have hback : ∀ (k : Nat), ∀ v ∈ opn, met v ≤ k → met id ≤ met v → Rch nd v id := by
    intro k
    induction k with
    | zero => intro v hv h0 _; exact absurd (Nat.le_zero.1 h0) (h.on v hv).2.1
    | succ k ih =>
      intro v hv hk hm
      by_cases e : v = id
      · subst e; exact .refl _
      · obtain ⟨h1, _⟩ := h.of v hv (hoff v hv hm e)
        obtain ⟨_, u, hu, h2, h3⟩ := h.lw v hv
        have := hlow v hv hm
        exact h3.trans (ih u hu (by omega) (by omega))
  refine ⟨fun v hv hm => ⟨h.rp id (by simp) v hv hm, hback _ v hv (Nat.le_refl _) hm⟩, fun v hv hm e he => ?_⟩
  have hn : nxt v = (nd v).length := by
    by_cases e' : v = id
    · subst e'; exact hf
    · exact (h.of v hv (hoff v hv hm e')).2.1
  obtain ⟨k, hk, hke⟩ := List.getElem_of_mem he
  rcases h.ned v hv k (by omega) e (by rw [List.getElem?_eq_getElem hk, hke]) with h1 | ⟨h1, h2⟩
  · exact .inl h1
  · have := hlow v hv hm
    exact .inr ⟨h1, by omega⟩
/-- A negation within a circle: there are no strata. -/
theorem Inv.bad {id : Nat} (h : Inv nd n (path ++ [id]) opn nxt met low cnt st) (hf : nxt id = (nd id).length) (hl : low id = met id) {v : Nat} (hv : v ∈ opn) (hm : met id ≤ met v) {e : Nat × Bool} (he : e ∈ nd v) (hn : e.2 = true) (hs : st e.1 = -1) : ∀ t, ¬ Sol nd n t := by
  intro t ht
  obtain ⟨c1, c2⟩ := h.circle hf hl
  rcases c2 v hv hm e he with h1 | ⟨h1, h2⟩
  · omega
  · have hvn := (h.on v hv).1
    have hen := (h.on e.1 h1).1
    have r1 : Rch nd e.1 v := (c1 e.1 h1 h2).2.trans (c1 v hv hm).1
    have := ht.reach h.bnd r1 hen
    have h3 := ht.le v hvn e he
    rw [hn] at h3
    simp [ng] at h3
    omega
/-- A circle is closed. -/
theorem Inv.settle {id : Nat} {pre C : List Nat} (h : Inv nd n (path ++ [id]) opn nxt met low cnt st) (hf : nxt id = (nd id).length) (hl : low id = met id) (ho : opn = pre ++ C) (hC : ∀ v ∈ C, met id ≤ met v) (hp : ∀ v ∈ pre, met v < met id) {s : Int} (hs0 : 0 ≤ s)
    (hneg : ∀ v ∈ C, ∀ e ∈ nd v, st e.1 = -1 → e.2 = false) (hub : ∀ v ∈ C, ∀ e ∈ nd v, 0 ≤ st e.1 → st e.1 + ng e.2 ≤ s) (hlb : s = 0 ∨ ∃ v ∈ C, ∃ e ∈ nd v, 0 ≤ st e.1 ∧ s = st e.1 + ng e.2) :
    Inv nd n path pre nxt met low cnt (fun v => if v ∈ C then s else st v) := by
  subst ho
  obtain ⟨c1, c2⟩ := h.circle hf hl
  have hid : id ∈ pre ++ C := h.pin id (by simp)
  have hidC : id ∈ C := by
    rcases List.mem_append.1 hid with e | e
    · have := hp id e; omega
    · exact e
  have hdis : ∀ v ∈ pre, v ∉ C := fun v hv hc => by have := hp v hv; have := hC v hc; omega
  have hst : ∀ v, 0 ≤ st v → v < n → v ∉ C := fun v hv hn hc => by have := (h.on v (by simp [hc])).2.2.2; omega
  have htop : ∀ p ∈ path, met p < met id := fun p hp => (List.pairwise_append.1 h.ps).2.2 p hp id (by simp)
  have hpp : ∀ p ∈ path, p ∈ pre := fun p hp' => by
    have h1 := h.pin p (by simp [hp'])
    rcases List.mem_append.1 h1 with e | e
    · exact e
    · have := hC p e; have := htop p hp'; omega
  refine ⟨h.bnd, hpp, fun v hv => ?_, fun v hv hm ho => ?_, fun v hv hm => ?_, (List.pairwise_append.1 h.os).1, (List.pairwise_append.1 h.ps).1, fun p hp' v hv => h.rp p (by simp [hp']) v (by simp [hv]), fun v hv => ?_, fun v hv hvp => ?_, fun v hv k hk e hke => ?_, fun v hv hs t ht => ?_, fun v hv hs e he => ?_⟩
  · obtain ⟨a, b, c, d⟩ := h.on v (by simp [hv])
    exact ⟨a, b, c, by simp only [hdis v hv, if_false]; exact d⟩
  · by_cases e : v ∈ C
    · simp only [e, if_true]; exact hs0
    · simp only [e, if_false]
      exact h.cl v hv hm (by simp [ho, e])
  · have e : v ∉ C := fun e => (h.on v (by simp [e])).2.1 hm
    simp only [e, if_false]
    exact h.un v hv hm
  · obtain ⟨h1, u, hu, h2, h3⟩ := h.lw v (by simp [hv])
    refine ⟨h1, u, ?_, h2, h3⟩
    rcases List.mem_append.1 hu with e | e
    · exact e
    · have := hC u e; have := hp v hv; omega
  · obtain ⟨h1, h2, p, hpq, h3, h4, h5⟩ := h.of v (by simp [hv]) (fun hh => by
      rcases List.mem_append.1 hh with e | e
      · exact hvp e
      · have e : v = id := by simpa using e
        subst e; exact hdis v hv hidC)
    have hq : p ∈ path := by
      rcases List.mem_append.1 hpq with e | e
      · exact e
      · have e : p = id := by simpa using e
        subst e; have := hp v hv; omega
    exact ⟨h1, h2, p, hq, h3, h4, fun p' hp' => h5 p' (by simp [hp'])⟩
  · rcases h.ned v (by simp [hv]) k hk e hke with h1 | ⟨h1, h2⟩
    · left
      by_cases e' : e.1 ∈ C
      · simp only [e', if_true]; exact hs0
      · simp only [e', if_false]; exact h1
    · by_cases e' : e.1 ∈ C
      · left; simp only [e', if_true]; exact hs0
      · right
        rcases List.mem_append.1 h1 with h3 | h3
        · exact ⟨h3, h2⟩
        · exact absurd h3 e'
  · by_cases e : v ∈ C
    · simp only [e, if_true]
      rcases hlb with rfl | ⟨u, hu, e', he', hs', rfl⟩
      · exact ht.nn v hv
      · have hun := (h.on u (by simp [hu])).1
        have r := (c1 v (by simp [e]) (hC v e)).2.trans (c1 u (by simp [hu]) (hC u hu)).1
        have h1 := ht.reach h.bnd r hv
        have h2 := ht.le u hun e' he'
        have h3 := h.least e'.1 (h.bnd u hun e' he') hs' t ht
        omega
    · simp only [e, if_false] at hs ⊢
      exact h.least v hv hs t ht
  · by_cases e1 : v ∈ C
    · simp only [e1, if_true] at hs ⊢
      by_cases e2 : e.1 ∈ C
      · simp only [e2, if_true]
        have h1 := (h.on e.1 (by simp [e2])).2.2.2
        rw [hneg v e1 e he h1]
        exact ⟨hs0, by simp [ng]⟩
      · simp only [e2, if_false]
        rcases c2 v (by simp [e1]) (hC v e1) e he with h1 | ⟨h1, h2⟩
        · exact ⟨h1, hub v e1 e he h1⟩
        · rcases List.mem_append.1 h1 with h3 | h3
          · have := hp _ h3; omega
          · exact absurd h3 e2
    · simp only [e1, if_false] at hs ⊢
      obtain ⟨h1, h2⟩ := h.sat v hv hs e he
      have e2 : e.1 ∉ C := hst e.1 h1 (h.bnd v hv e he)
      simp only [e2, if_false]
      exact ⟨h1, h2⟩
/-- When the path is at its end nobody is open. -/
theorem Inv.none (h : Inv nd n [] opn nxt met low cnt st) : opn = [] := by
  cases opn with
  | nil => rfl
  | cons v r =>
    obtain ⟨_, _, p, hp, _⟩ := h.of v (by simp) (by simp)
    cases hp
theorem Inv.zero (nd : Nat → List (Nat × Bool)) (n : Nat) (hb : ∀ v, v < n → ∀ e ∈ nd v, e.1 < n) (nxt low : Nat → Nat) : Inv nd n [] [] nxt (fun _ => 0) low 0 (fun _ => -1) :=
  ⟨hb, (fun p hp => by cases hp), (fun v hv => by cases hv), (fun v _ h => absurd rfl h), (fun v _ _ => rfl), .nil, .nil, (fun p hp => by cases hp), (fun v hv => by cases hv), (fun v hv => by cases hv), (fun v hv => by cases hv), (fun v _ h => by omega), (fun v _ h => by omega)⟩
/-- When all are met and none is open: the least strata. -/
theorem Inv.done (h : Inv nd n [] opn nxt met low cnt st) (hm : ∀ v, v < n → met v ≠ 0) : Sol nd n st ∧ ∀ t, Sol nd n t → ∀ v, v < n → st v ≤ t v := by
  have ho := h.none
  subst ho
  have hs : ∀ v, v < n → 0 ≤ st v := fun v hv => h.cl v hv (hm v hv) (by simp)
  exact ⟨⟨hs, fun v hv e he => (h.sat v hv (hs v hv) e he).2⟩, fun t ht v hv => h.least v hv (hs v hv) t ht⟩
end Go.Proofs.Ytdmhajeaphnebaa.Tj
namespace Go.Proofs.Ytdmhajeaphnebaa.Tj

theorem count_le {α : Type} {p q : α → Bool} : ∀ (l : List α), (∀ x ∈ l, p x = true → q x = true) → l.countP p ≤ l.countP q
  | [], _ => Nat.le_refl _
  | x :: r, h => by
    have ih := count_le r (fun y hy => h y (by simp [hy]))
    rw [List.countP_cons, List.countP_cons]
    have := h x (by simp)
    cases hp : p x <;> cases hq : q x <;> simp [hp, hq] at this ⊢ <;> omega
theorem count_lt {α : Type} {p q : α → Bool} {x : α} : ∀ (l : List α), (∀ y ∈ l, p y = true → q y = true) → x ∈ l → p x = false → q x = true → l.countP p + 1 ≤ l.countP q
  | [], _, hx, _, _ => by cases hx
  | y :: r, h, hx, hp, hq => by
    rw [List.countP_cons, List.countP_cons]
    rcases List.mem_cons.1 hx with e | hx
    · subst e
      have := count_le r (fun z hz => h z (by simp [hz]))
      simp [hp, hq]
      omega
    · have ih := count_lt r (fun z hz => h z (by simp [hz])) hx hp hq
      have := h y (by simp)
      cases hp' : p y <;> cases hq' : q y <;> simp [hp', hq'] at this ⊢ <;> omega
variable {nd : Nat → List (Nat × Bool)} {n : Nat}
/-- Where there are strata, there are some below n. -/
theorem Sol.small {t : Nat → Int} (h : Sol nd n t) (hb : ∀ v, v < n → ∀ e ∈ nd v, e.1 < n) : ∃ t', Sol nd n t' ∧ ∀ v, v < n → t' v < n := by
  refine ⟨fun v => ((List.range n).countP (fun u => decide (t u < t v)) : Nat), ⟨fun v _ => by omega, fun v hv e he => ?_⟩, fun v hv => ?_⟩
  · have h1 := h.le v hv e he
    have h2 := hb v hv e he
    cases e' : e.2 with
    | false =>
      rw [e'] at h1
      simp [ng] at h1 ⊢
      exact count_le _ (fun u _ hu => by simp at hu ⊢; omega)
    | true =>
      rw [e'] at h1
      simp [ng] at h1
      have := count_lt (p := fun u => decide (t u < t e.1)) (q := fun u => decide (t u < t v)) (x := e.1) (List.range n) (fun u _ hu => by simp at hu ⊢; omega) (List.mem_range.2 h2) (by simp) (by simp; omega)
      simp [ng]
      omega
  · have := count_lt (p := fun u => decide (t u < t v)) (q := fun _ => true) (x := v) (List.range n) (fun _ _ _ => rfl) (List.mem_range.2 hv) (by simp) rfl
    simp at this
    show (((List.range n).countP (fun u => decide (t u < t v)) : Nat) : Int) < n
    omega
/-- Strata that are raised where they must be: never above any that may be. -/
structure Ras (nd : Nat → List (Nat × Bool)) (n : Nat) (s : Nat → Int) : Prop where
  nn : ∀ v, v < n → 0 ≤ s v
  le : ∀ t, Sol nd n t → ∀ v, v < n → s v ≤ t v
theorem Ras.zero (nd : Nat → List (Nat × Bool)) (n : Nat) : Ras nd n (fun _ => 0) := ⟨fun _ _ => Int.le_refl _, fun _ ht v hv => ht.nn v hv⟩
theorem Ras.step {s : Nat → Int} (h : Ras nd n s) (hb : ∀ v, v < n → ∀ e ∈ nd v, e.1 < n) {v : Nat} (hv : v < n) {e : Nat × Bool} (he : e ∈ nd v) (hlt : s v < s e.1 + ng e.2) : Ras nd n (fun k => if k = v then s e.1 + ng e.2 else s k) := by
  refine ⟨fun k hk => ?_, fun t ht k hk => ?_⟩
  · by_cases e' : k = v
    · simp only [e', if_true]
      have := h.nn v hv
      omega
    · simp only [e', if_false]; exact h.nn k hk
  · by_cases e' : k = v
    · simp only [e', if_true]
      have h1 := ht.le v hv e he
      have h2 := h.le t ht e.1 (hb v hv e he)
      omega
    · simp only [e', if_false]; exact h.le t ht k hk
theorem Ras.high {s : Nat → Int} (h : Ras nd n s) (hb : ∀ v, v < n → ∀ e ∈ nd v, e.1 < n) {v : Nat} (hv : v < n) (hh : (n : Int) < s v) : ∀ t, ¬ Sol nd n t := fun t ht => by
  obtain ⟨t', h1, h2⟩ := ht.small hb
  have := h.le t' h1 v hv
  have := h2 v hv
  omega
theorem Ras.done {s : Nat → Int} (h : Ras nd n s) (hs : ∀ v, v < n → ∀ e ∈ nd v, s e.1 + ng e.2 ≤ s v) : Sol nd n s ∧ ∀ t, Sol nd n t → ∀ v, v < n → s v ≤ t v := ⟨⟨h.nn, hs⟩, h.le⟩
/-- The least strata are one. -/
theorem least_one {s t : Nat → Int} (h1 : Sol nd n s) (h2 : ∀ u, Sol nd n u → ∀ v, v < n → s v ≤ u v) (k1 : Sol nd n t) (k2 : ∀ u, Sol nd n u → ∀ v, v < n → t v ≤ u v) : ∀ v, v < n → s v = t v := fun v hv => Int.le_antisymm (h2 t k1 v hv) (k2 s h1 v hv)

/-- It comes back to itself. -/
def Back (nd : Nat → List (Nat × Bool)) (a : Nat) : Prop := ∃ e ∈ nd a, Rch nd e.1 a
/-- A search from a: who was seen, who still waits. -/
structure Sea (nd : Nat → List (Nat × Bool)) (a : Nat) (seen : Nat → Prop) (wait : List Nat) : Prop where
  from' : ∀ x, (x = a ∨ seen x) → Rch nd a x
  wt : ∀ x ∈ wait, x = a ∨ seen x
  sn : ∀ x, (x = a ∨ seen x) → x ∉ wait → ∀ e ∈ nd x, e.1 ≠ a ∧ seen e.1
  st : ∀ x, seen x → ∃ e ∈ nd a, Rch nd e.1 x
theorem Sea.found {a x : Nat} {seen : Nat → Prop} {wait : List Nat} (h : Sea nd a seen wait) (hx : x = a ∨ seen x) {e : Nat × Bool} (he : e ∈ nd x) (hea : e.1 = a) : Back nd a := by
  rcases hx with rfl | hx
  · exact ⟨e, he, by rw [hea]; exact .refl _⟩
  · obtain ⟨e', h1, h2⟩ := h.st x hx
    exact ⟨e', h1, h2.trans (.step he (by rw [hea]; exact .refl _))⟩
theorem Sea.none {a : Nat} {seen : Nat → Prop} (h : Sea nd a seen []) : ¬ Back nd a := by
  have key : ∀ x y, Rch nd x y → seen x → x ≠ a → seen y ∧ y ≠ a := by
    intro x y r
    induction r with
    | refl => exact fun h1 h2 => ⟨h1, h2⟩
    | @step x y e he _ ih =>
      intro h1 h2
      obtain ⟨k1, k2⟩ := h.sn x (.inr h1) (by simp) e he
      exact ih k2 k1
  rintro ⟨e, he, r⟩
  obtain ⟨k1, k2⟩ := h.sn a (.inl rfl) (by simp) e he
  exact (key e.1 a r k2 k1).2 rfl
end Go.Proofs.Ytdmhajeaphnebaa.Tj
namespace Go.Proofs.Ytdmhajeaphnebaa.Tj
variable {T : Type}
abbrev LitG (T : Type) := Int × ByteArray × T
abbrev RulG (T : Type) := LitG T × List (LitG T)
def hdN (r : RulG T) : ByteArray := r.1.2.1
def memB (H : List ByteArray) (x : ByteArray) : Bool := H.any fun y => decide (y = x)
theorem memB_iff {H : List ByteArray} {x : ByteArray} : memB H x = true ↔ x ∈ H := by
  unfold memB
  rw [List.any_eq_true]
  exact ⟨fun ⟨y, h, e⟩ => by have := of_decide_eq_true e; subst this; exact h, fun h => ⟨x, h, decide_eq_true rfl⟩⟩
def addN (acc : List ByteArray) (x : ByteArray) : List ByteArray := if memB acc x = true then acc else acc ++ [x]
def idsOf (rs : List (RulG T)) : List ByteArray := (rs.map hdN).foldl addN []
def ixN : List ByteArray → ByteArray → Nat
  | [], _ => 0
  | y :: r, x => if y = x then 0 else ixN r x + 1
theorem ixN_lt {x : ByteArray} : ∀ {H : List ByteArray}, x ∈ H → ixN H x < H.length
  | [], h => by cases h
  | y :: r, h => by
    unfold ixN
    by_cases e : y = x
    · rw [if_pos e]; simp
    · rw [if_neg e]
      have := ixN_lt (H := r) (by rcases List.mem_cons.1 h with h | h; exact absurd h.symm e; exact h)
      simp; omega
theorem ixN_get {x : ByteArray} : ∀ {H : List ByteArray}, x ∈ H → H[ixN H x]? = some x
  | [], h => by cases h
  | y :: r, h => by
    unfold ixN
    by_cases e : y = x
    · rw [if_pos e, e]; rfl
    · rw [if_neg e]
      exact ixN_get (H := r) (by rcases List.mem_cons.1 h with h | h; exact absurd h.symm e; exact h)
theorem ixN_getE {x : ByteArray} {H : List ByteArray} (h : x ∈ H) : H[ixN H x]'(ixN_lt h) = x := by
  have := ixN_get h
  rw [List.getElem?_eq_getElem (ixN_lt h)] at this
  simpa using this
theorem ixN_at {x : ByteArray} : ∀ {H : List ByteArray} {i : Nat}, H.Nodup → H[i]? = some x → ixN H x = i
  | [], _, _, h => by simp at h
  | y :: r, i, hn, h => by
    obtain ⟨hy, hr⟩ := List.nodup_cons.1 hn
    unfold ixN
    cases i with
    | zero => simp at h; rw [if_pos h]
    | succ i =>
      simp at h
      have hx : x ∈ r := List.mem_of_getElem? h
      rw [if_neg (fun e : y = x => hy (by rw [e]; exact hx)), ixN_at hr h]
theorem ixN_app {x : ByteArray} : ∀ {H : List ByteArray} (L : List ByteArray), x ∈ H → ixN (H ++ L) x = ixN H x
  | [], _, h => by cases h
  | y :: r, L, h => by
    show ixN (y :: (r ++ L)) x = _
    unfold ixN
    by_cases e : y = x
    · rw [if_pos e, if_pos e]
    · rw [if_neg e, if_neg e, ixN_app (H := r) L (by rcases List.mem_cons.1 h with h | h; exact absurd h.symm e; exact h)]
theorem ixN_new {x : ByteArray} : ∀ {H : List ByteArray}, x ∉ H → ixN (H ++ [x]) x = H.length
  | [], _ => by simp [ixN]
  | y :: r, h => by
    show ixN (y :: (r ++ [x])) x = _
    unfold ixN
    rw [if_neg (fun e => h (by simp [e])), ixN_new (H := r) (fun h' => h (by simp [h']))]
    simp
theorem ixN_inj {x y : ByteArray} {H : List ByteArray} (hx : x ∈ H) (hy : y ∈ H) (e : ixN H x = ixN H y) : x = y := by
  have h1 := ixN_get hx
  rw [e, ixN_get hy] at h1
  simpa using h1.symm
/-- The heads of rules, each once. -/
structure HeadsOf (H : List ByteArray) (rs : List (RulG T)) : Prop where
  nd : H.Nodup
  mem : ∀ x, x ∈ H ↔ ∃ r ∈ rs, hdN r = x
theorem addN_nd {acc : List ByteArray} {x : ByteArray} (h : acc.Nodup) : (addN acc x).Nodup := by
  unfold addN
  split
  · exact h
  · rename_i hx
    refine List.nodup_append.2 ⟨h, by simp, fun a ha b hb => ?_⟩
    have : b = x := by simpa using hb
    subst this
    exact fun e => hx (memB_iff.2 (e ▸ ha))
theorem addN_mem {acc : List ByteArray} {x y : ByteArray} : y ∈ addN acc x ↔ y ∈ acc ∨ y = x := by
  unfold addN
  split
  · rename_i h
    exact ⟨.inl, fun k => k.elim id (fun e => e ▸ memB_iff.1 h)⟩
  · simp
theorem idsOf_take {rs : List (RulG T)} {k : Nat} (h : k < rs.length) : idsOf (rs.take (k + 1)) = addN (idsOf (rs.take k)) (hdN rs[k]) := by
  simp only [idsOf, List.take_succ_eq_append_getElem h, List.map_append, List.foldl_append]
  rfl
theorem heads_ids (rs : List (RulG T)) : HeadsOf (idsOf rs) rs := by
  have key : ∀ (l : List ByteArray) (acc : List ByteArray), acc.Nodup → (l.foldl addN acc).Nodup ∧ ∀ x, x ∈ l.foldl addN acc ↔ x ∈ acc ∨ x ∈ l := by
    intro l
    induction l with
    | nil => exact fun acc h => ⟨h, fun x => by simp⟩
    | cons a l ih =>
      intro acc h
      obtain ⟨h1, h2⟩ := ih (addN acc a) (addN_nd h)
      refine ⟨h1, fun x => ?_⟩
      show x ∈ l.foldl addN (addN acc a) ↔ _
      rw [h2, addN_mem, List.mem_cons, or_assoc]
  obtain ⟨h1, h2⟩ := key (rs.map hdN) [] List.nodup_nil
  exact ⟨h1, fun x => by show x ∈ (rs.map hdN).foldl addN [] ↔ _; rw [h2]; simp⟩
theorem addN_len (acc : List ByteArray) (x : ByteArray) : (addN acc x).length ≤ acc.length + 1 := by
  unfold addN; split <;> simp
theorem idsOf_len (rs : List (RulG T)) : (idsOf rs).length ≤ rs.length := by
  have key : ∀ (l : List ByteArray) (acc : List ByteArray), (l.foldl addN acc).length ≤ acc.length + l.length := by
    intro l
    induction l with
    | nil => exact fun acc => by simp
    | cons a l ih =>
      intro acc
      have h1 := ih (addN acc a)
      have h2 := addN_len acc a
      show (l.foldl addN (addN acc a)).length ≤ _
      simp only [List.length_cons]
      omega
  have := key (rs.map hdN) []
  simpa [idsOf] using this

def isP (l : LitG T) : Prop := l.1 = 1 ∨ l.1 = 2
instance (l : LitG T) : Decidable (isP l) := inferInstanceAs (Decidable (_ ∨ _))
def nd1 (H : List ByteArray) (l : LitG T) : List (Nat × Bool) := if isP l ∧ memB H l.2.1 = true then [(ixN H l.2.1, decide (l.1 = 2))] else []
def ndB (H : List ByteArray) (ls : List (LitG T)) : List (Nat × Bool) := ls.flatMap (nd1 H)
def ndR (H : List ByteArray) (v : Nat) (r : RulG T) : List (Nat × Bool) := if ixN H (hdN r) = v then ndB H r.2 else []
def ndOf (H : List ByteArray) (rs : List (RulG T)) (v : Nat) : List (Nat × Bool) := rs.flatMap (ndR H v)
theorem ndB_take {H : List ByteArray} {ls : List (LitG T)} {k : Nat} (h : k < ls.length) : ndB H (ls.take (k + 1)) = ndB H (ls.take k) ++ nd1 H ls[k] := by
  unfold ndB
  rw [List.take_succ_eq_append_getElem h, List.flatMap_append, List.flatMap_cons, List.flatMap_nil, List.append_nil]
theorem ndOf_take {H : List ByteArray} {rs : List (RulG T)} {k : Nat} (h : k < rs.length) (v : Nat) : ndOf H (rs.take (k + 1)) v = ndOf H (rs.take k) v ++ ndR H v rs[k] := by
  unfold ndOf
  rw [List.take_succ_eq_append_getElem h, List.flatMap_append, List.flatMap_cons, List.flatMap_nil, List.append_nil]
theorem nd1_mem {H : List ByteArray} {l : LitG T} {e : Nat × Bool} : e ∈ nd1 H l ↔ isP l ∧ l.2.1 ∈ H ∧ e = (ixN H l.2.1, decide (l.1 = 2)) := by
  unfold nd1
  split
  · rename_i h
    exact ⟨fun k => ⟨h.1, memB_iff.1 h.2, by simpa using k⟩, fun k => by rw [k.2.2]; simp⟩
  · rename_i h
    exact ⟨fun k => (List.not_mem_nil k).elim, fun k => absurd ⟨k.1, memB_iff.2 k.2.1⟩ h⟩
theorem nd1_len (H : List ByteArray) (l : LitG T) : (nd1 H l).length ≤ 1 := by unfold nd1; split <;> simp
theorem ndB_len (H : List ByteArray) : ∀ ls : List (LitG T), (ndB H ls).length ≤ ls.length
  | [] => Nat.le_refl _
  | l :: r => by
    have h1 := nd1_len H l
    have h2 := ndB_len H r
    simp only [ndB, List.flatMap_cons, List.length_append, List.length_cons] at h2 ⊢
    omega
theorem ndOf_len (H : List ByteArray) (v m : Nat) : ∀ rs : List (RulG T), (∀ r ∈ rs, r.2.length ≤ m) → (ndOf H rs v).length ≤ rs.length * m
  | [], _ => by simp [ndOf]
  | r :: l, h => by
    have h1 : (ndR H v r).length ≤ m := by
      unfold ndR
      split
      · exact Nat.le_trans (ndB_len H r.2) (h r (by simp))
      · exact Nat.zero_le _
    have h2 := ndOf_len H v m l (fun q hq => h q (by simp [hq]))
    have h3 : (l.length + 1) * m = l.length * m + m := by rw [Nat.add_mul, Nat.one_mul]
    simp only [ndOf, List.flatMap_cons, List.length_append, List.length_cons] at h2 ⊢
    omega
theorem ndOf_mem {H : List ByteArray} {rs : List (RulG T)} {v : Nat} {e : Nat × Bool} : e ∈ ndOf H rs v ↔ ∃ r ∈ rs, ixN H (hdN r) = v ∧ ∃ l ∈ r.2, isP l ∧ l.2.1 ∈ H ∧ e = (ixN H l.2.1, decide (l.1 = 2)) := by
  simp only [ndOf, List.mem_flatMap, ndR]
  constructor
  · rintro ⟨r, hr, h⟩
    split at h
    · rename_i hv
      obtain ⟨l, hl, h1⟩ := List.mem_flatMap.1 h
      exact ⟨r, hr, hv, l, hl, nd1_mem.1 h1⟩
    · cases h
  · rintro ⟨r, hr, hv, l, hl, h⟩
    exact ⟨r, hr, by rw [if_pos hv]; exact List.mem_flatMap.2 ⟨l, hl, nd1_mem.2 h⟩⟩
theorem ndOf_bnd (H : List ByteArray) (rs : List (RulG T)) (v : Nat) : ∀ e ∈ ndOf H rs v, e.1 < H.length := fun e he => by
  obtain ⟨_, _, _, l, _, _, hm, rfl⟩ := ndOf_mem.1 he
  exact ixN_lt hm

/-- Strata that may be, by names. -/
structure NSol (rs : List (RulG T)) (t : ByteArray → Int) : Prop where
  nn : ∀ r ∈ rs, 0 ≤ t (hdN r)
  le : ∀ r ∈ rs, ∀ l ∈ r.2, isP l → (∃ q ∈ rs, hdN q = l.2.1) → t l.2.1 + ng (decide (l.1 = 2)) ≤ t (hdN r)
structure NLeast (rs : List (RulG T)) (s : ByteArray → Int) : Prop where
  sol : NSol rs s
  least : ∀ t, NSol rs t → ∀ r ∈ rs, s (hdN r) ≤ t (hdN r)
theorem sol_name {H : List ByteArray} {rs : List (RulG T)} (hH : HeadsOf H rs) {t : Nat → Int} (h : Sol (ndOf H rs) H.length t) : NSol rs (fun x => t (ixN H x)) := by
  refine ⟨fun r hr => h.nn _ (ixN_lt ((hH.mem _).2 ⟨r, hr, rfl⟩)), fun r hr l hl hp hq => ?_⟩
  exact h.le _ (ixN_lt ((hH.mem _).2 ⟨r, hr, rfl⟩)) _ (ndOf_mem.2 ⟨r, hr, rfl, l, hl, hp, (hH.mem _).2 hq, rfl⟩)
theorem name_sol {H : List ByteArray} {rs : List (RulG T)} (hH : HeadsOf H rs) {t : ByteArray → Int} (h : NSol rs t) : Sol (ndOf H rs) H.length (fun v => t (H.getD v ⟨#[]⟩)) := by
  have hg : ∀ {x}, x ∈ H → H.getD (ixN H x) ⟨#[]⟩ = x := fun hx => by simp [List.getD, ixN_get hx]
  refine ⟨fun v hv => ?_, fun v hv e he => ?_⟩
  · obtain ⟨r, hr, e⟩ := (hH.mem H[v]).1 (List.getElem_mem hv)
    have e1 : H.getD v ⟨#[]⟩ = H[v] := by simp [List.getD, hv]
    show 0 ≤ t (H.getD v ⟨#[]⟩)
    rw [e1, ← e]
    exact h.nn r hr
  · obtain ⟨r, hr, hv', l, hl, hp, hm, rfl⟩ := ndOf_mem.1 he
    show t (H.getD (ixN H l.2.1) ⟨#[]⟩) + _ ≤ t (H.getD v ⟨#[]⟩)
    rw [hg hm, ← hv', hg ((hH.mem _).2 ⟨r, hr, rfl⟩)]
    exact h.le r hr l hl hp ((hH.mem _).1 hm)
theorem name_least {H : List ByteArray} {rs : List (RulG T)} (hH : HeadsOf H rs) {t : Nat → Int} (h : Sol (ndOf H rs) H.length t) (hl : ∀ u, Sol (ndOf H rs) H.length u → ∀ v, v < H.length → t v ≤ u v) : NLeast rs (fun x => t (ixN H x)) := by
  refine ⟨sol_name hH h, fun u hu r hr => ?_⟩
  have hm := (hH.mem _).2 ⟨r, hr, rfl⟩
  have := hl _ (name_sol hH hu) _ (ixN_lt hm)
  have e : H.getD (ixN H (hdN r)) ⟨#[]⟩ = hdN r := by simp [List.getD, ixN_get hm]
  rw [e] at this
  exact this
theorem name_none {H : List ByteArray} {rs : List (RulG T)} (hH : HeadsOf H rs) (h : ∀ t, ¬ Sol (ndOf H rs) H.length t) : ∀ t, ¬ NSol rs t := fun _ ht => h _ (name_sol hH ht)
theorem NLeast.one {rs : List (RulG T)} {s t : ByteArray → Int} (h : NLeast rs s) (k : NLeast rs t) : ∀ r ∈ rs, s (hdN r) = t (hdN r) := fun r hr => Int.le_antisymm (h.least t k.sol r hr) (k.least s h.sol r hr)
theorem NLeast.small {rs : List (RulG T)} {s : ByteArray → Int} (h : NLeast rs s) : ∀ r ∈ rs, s (hdN r) < (idsOf rs).length := fun r hr => by
  have hH := heads_ids rs
  obtain ⟨t, h1, h2⟩ := (name_sol hH h.sol).small (fun v _ => ndOf_bnd _ rs v)
  have hm := (hH.mem _).2 ⟨r, hr, rfl⟩
  have k1 := h.least _ (sol_name hH h1) r hr
  have k2 := h2 _ (ixN_lt hm)
  exact Int.lt_of_le_of_lt k1 k2

/-- It comes back, by names. -/
def BackN (rs : List (RulG T)) (x : ByteArray) : Prop := x ∈ idsOf rs ∧ Back (ndOf (idsOf rs) rs) (ixN (idsOf rs) x)
variable {nd : Nat → List (Nat × Bool)}
/-- A search while the needs of x are gone through: the first k of them are done. -/
structure SeaK (nd : Nat → List (Nat × Bool)) (a : Nat) (seen : Nat → Prop) (wait : List Nat) (x k : Nat) : Prop where
  from' : ∀ y, (y = a ∨ seen y) → Rch nd a y
  wt : ∀ y ∈ wait, y = a ∨ seen y
  xs : x = a ∨ seen x
  sn : ∀ y, (y = a ∨ seen y) → y ∉ wait → y ≠ x → ∀ e ∈ nd y, e.1 ≠ a ∧ seen e.1
  dn : ∀ e ∈ (nd x).take k, e.1 ≠ a ∧ seen e.1
  st : ∀ y, seen y → ∃ e ∈ nd a, Rch nd e.1 y
theorem Sea.zero (nd : Nat → List (Nat × Bool)) (a : Nat) : Sea nd a (fun _ => False) [a] :=
  ⟨fun x h => h.elim (fun e => e ▸ .refl _) False.elim, fun x h => .inl (by simpa using h), fun x h hn => (hn (by simp [h.elim id False.elim])).elim, fun _ h => h.elim⟩
theorem Sea.pop {a x : Nat} {seen : Nat → Prop} {wait wait' : List Nat} (h : Sea nd a seen wait) (hx : x ∈ wait) (hs : ∀ y ∈ wait, y = x ∨ y ∈ wait') (hw : ∀ y ∈ wait', y ∈ wait) : SeaK nd a seen wait' x 0 :=
  ⟨h.from', fun y hy => h.wt y (hw y hy), h.wt x hx, fun y hy hn hne => h.sn y hy (fun h' => (hs y h').elim hne hn), fun e he => by simp at he, h.st⟩
theorem SeaK.done {a x k : Nat} {seen : Nat → Prop} {wait : List Nat} (h : SeaK nd a seen wait x k) (hk : (nd x).length ≤ k) : Sea nd a seen wait :=
  ⟨h.from', h.wt, fun y hy hn => by
    by_cases e : y = x
    · intro e' he
      refine h.dn e' ?_
      rw [List.take_of_length_le hk, ← e]
      exact he
    · exact h.sn y hy hn e, h.st⟩
theorem SeaK.found {a x k : Nat} {seen : Nat → Prop} {wait : List Nat} (h : SeaK nd a seen wait x k) {e : Nat × Bool} (he : e ∈ nd x) (hea : e.1 = a) : Back nd a := by
  rcases h.xs with rfl | hx
  · exact ⟨e, he, by rw [hea]; exact .refl _⟩
  · obtain ⟨e', h1, h2⟩ := h.st x hx
    exact ⟨e', h1, h2.trans (.step he (by rw [hea]; exact .refl _))⟩
theorem take_next {α : Type} {l : List α} {k : Nat} {e : α} (h : l[k]? = some e) : l.take (k + 1) = l.take k ++ [e] := by
  obtain ⟨h1, h2⟩ := List.getElem?_eq_some_iff.1 h
  rw [List.take_succ_eq_append_getElem h1, h2]
theorem SeaK.old {a x k : Nat} {seen : Nat → Prop} {wait : List Nat} (h : SeaK nd a seen wait x k) {e : Nat × Bool} (he : (nd x)[k]? = some e) (hne : e.1 ≠ a) (hs : seen e.1) : SeaK nd a seen wait x (k + 1) :=
  ⟨h.from', h.wt, h.xs, h.sn, fun e' he' => by
    rw [take_next he, List.mem_append] at he'
    rcases he' with h1 | h1
    · exact h.dn e' h1
    · have : e' = e := by simpa using h1
      subst this
      exact ⟨hne, hs⟩, h.st⟩
theorem SeaK.new {a x k : Nat} {seen seen' : Nat → Prop} {wait wait' : List Nat} (h : SeaK nd a seen wait x k) {e : Nat × Bool} (he : (nd x)[k]? = some e) (hne : e.1 ≠ a) (hs : ∀ y, seen' y ↔ seen y ∨ y = e.1) (hw : ∀ y, y ∈ wait' ↔ y ∈ wait ∨ y = e.1) : SeaK nd a seen' wait' x (k + 1) := by
  have hm : e ∈ nd x := List.mem_of_getElem? he
  have hr : Rch nd a e.1 := (h.from' x h.xs).trans (.one hm)
  refine ⟨fun y hy => ?_, fun y hy => ?_, h.xs.imp id (fun k => (hs x).2 (.inl k)), fun y hy hn hyx => ?_, fun e' he' => ?_, fun y hy => ?_⟩
  · rcases hy with hy | hy
    · exact h.from' y (.inl hy)
    · rcases (hs y).1 hy with hy | rfl
      · exact h.from' y (.inr hy)
      · exact hr
  · rcases (hw y).1 hy with hy | rfl
    · exact (h.wt y hy).imp id (fun k => (hs y).2 (.inl k))
    · exact .inr ((hs _).2 (.inr rfl))
  · have hy' : y = a ∨ seen y := by
      rcases hy with hy | hy
      · exact .inl hy
      · rcases (hs y).1 hy with hy | rfl
        · exact .inr hy
        · exact absurd ((hw _).2 (.inr rfl)) hn
    intro e' he'
    obtain ⟨k1, k2⟩ := h.sn y hy' (fun h' => hn ((hw y).2 (.inl h'))) hyx e' he'
    exact ⟨k1, (hs _).2 (.inl k2)⟩
  · rw [take_next he, List.mem_append] at he'
    rcases he' with h1 | h1
    · obtain ⟨k1, k2⟩ := h.dn e' h1
      exact ⟨k1, (hs _).2 (.inl k2)⟩
    · have : e' = e := by simpa using h1
      subst this
      exact ⟨hne, (hs _).2 (.inr rfl)⟩
  · rcases (hs y).1 hy with hy | rfl
    · exact h.st y hy
    · rcases h.xs with rfl | hx
      · exact ⟨e, hm, .refl _⟩
      · obtain ⟨e', h1, h2⟩ := h.st x hx
        exact ⟨e', h1, h2.trans (.one hm)⟩
theorem nodup_len : ∀ {l H : List ByteArray}, l.Nodup → (∀ x ∈ l, x ∈ H) → l.length ≤ H.length
  | [], _, _, _ => Nat.zero_le _
  | x :: r, H, hn, hs => by
    obtain ⟨h1, h2⟩ := List.nodup_cons.1 hn
    obtain ⟨a, b, rfl⟩ := List.append_of_mem (hs x (by simp))
    have := nodup_len (l := r) (H := a ++ b) h2 (fun y hy => by
      have h3 := hs y (by simp [hy])
      have hne : y ≠ x := fun e => h1 (by rw [← e]; exact hy)
      rcases List.mem_append.1 h3 with h | h
      · exact List.mem_append_left _ h
      · rcases List.mem_cons.1 h with h | h
        · exact absurd h hne
        · exact List.mem_append_right _ h)
    simp only [List.length_cons, List.length_append] at this ⊢
    omega
end Go.Proofs.Ytdmhajeaphnebaa.Tj
namespace Go.Proofs.Ytdmhajeaphnebaa.Gr
open Go.RowKit
open Vl (Fr)
theorem hide {p : Prop} (h : p) : Hid p := h
/-- A row of one's own, laid open. -/
theorem own_open {w : World} {e s n : Nat} {v : Value} {xs : List Value} (h : w.ownsRow 0 e s v n xs) (hn : 0 < n) : ∃ g cap, v = .slice (some ⟨g, 0, none⟩) n cap ∧ n ≤ cap ∧ cap ≤ maxLen ∧ (∀ j, j < n * s → w.cell? ⟨g, j, none⟩ = xs[j]?) ∧ (∀ j, w.frozen? ⟨g, j, none⟩ = false) := by
  rcases h.2 with ⟨_, h0⟩ | ⟨g, cap, cur, rfl, _, hg, h1, h2, h3, h4⟩
  · omega
  · refine ⟨g, cap, rfl, h1, h2, fun j hj => ?_, fun j => frozen_of_row w g j _ _ hg⟩
    rw [cell_of_row w g j _ _ _ hg, ← h4, List.getElem?_take, if_pos hj, Array.getElem?_toList]
theorem own_set {w : World} {e s n g cap j : Nat} {xs : List Value} (h : w.ownsRow 0 e s (.slice (some ⟨g, 0, none⟩) n cap) n xs) (u : Value) : (w.setCell ⟨g, j, none⟩ u).ownsRow 0 e s (.slice (some ⟨g, 0, none⟩) n cap) n (xs.set j u) := by
  refine ⟨by rw [List.length_set]; exact h.1, ?_⟩
  rcases h.2 with ⟨h0, _⟩ | ⟨g', cap', cur, hv, hb, hg, h1, h2, h3, h4⟩
  · cases h0
  · simp only [Value.slice.injEq, Option.some.injEq, Addr.mk.injEq, and_true, true_and] at hv
    obtain ⟨rfl, rfl⟩ := hv
    refine .inr ⟨g, cap, cur.setIfInBounds j u, rfl, hb, Vl.heap_set hg u, h1, h2, by simp [h3], ?_⟩
    rw [Array.toList_setIfInBounds, ← h4, List.take_set]
theorem own_cut {w : World} {e s n n' g cap : Nat} {xs xs' : List Value} (h : w.ownsRow 0 e s (.slice (some ⟨g, 0, none⟩) n cap) n xs) (hn : n' ≤ n) (hx : xs.take (n' * s) = xs') : w.ownsRow 0 e s (.slice (some ⟨g, 0, none⟩) n' cap) n' xs' := by
  have hl := h.1
  have hm : n' * s ≤ n * s := Nat.mul_le_mul_right s hn
  rcases h.2 with ⟨h0, _⟩ | ⟨g', cap', cur, hv, hb, hg, h1, h2, h3, h4⟩
  · cases h0
  · simp only [Value.slice.injEq, Option.some.injEq, Addr.mk.injEq, and_true, true_and] at hv
    obtain ⟨rfl, rfl⟩ := hv
    refine ⟨by rw [← hx, List.length_take, hl]; exact Nat.min_eq_left hm, .inr ⟨g, cap, cur, rfl, hb, hg, by omega, h2, h3, ?_⟩⟩
    rw [← hx, ← h4, List.take_take, Nat.min_eq_left hm]

theorem own_blk {w : World} {b e s n : Nat} {v : Value} {xs : List Value} (h : w.ownsRow b e s v n xs) {k : Nat} (hk : v.ownBlock = some k) : ∃ cur, w.heap[k]? = some (.cells cur e (0, 0)) := by
  rcases h.2 with ⟨rfl, _⟩ | ⟨g, cap, cur, rfl, _, hg, _⟩
  · cases hk
  · simp [Value.ownBlock] at hk
    subst hk
    exact ⟨cur, hg⟩
theorem res0 {fn : Func} (h : fn.results = #[]) (tmps : Array Value) (w : World) : (results fn tmps).run Try.prog w = .ok (.tuple #[]) w := by
  simp [results, h]
theorem fr_one (w : World) (b o : Nat) (u : Value) {F : Nat → Prop} (hb : F b) : Fr F w (w.setCell ⟨b, o, none⟩ u) := (Fr.refl F w).setCell (p := ⟨b, o, none⟩) (fun _ => hb) u
theorem own_of_cell {w : World} {b e s n : Nat} {v : Value} {xs : List Value} (h : w.ownsRow b e s v n xs) {F : Nat → Prop} {w' : World} (hf : Fr F w w') (hn : ∀ k, F k → v.ownBlock ≠ some k) : w'.ownsRow b e s v n xs := Vl.own_kept h hf (fun k hk hF => hn k hF hk)
theorem cell_same {w : World} {g i : Nat} {u v : Value} (h : w.cell? ⟨g, i, none⟩ = some v) : (w.setCell ⟨g, i, none⟩ u).cell? ⟨g, i, none⟩ = some u := by
  cases hb : w.heap[g]? with
  | none => simp [World.cell?, hb] at h
  | some ob =>
    cases ob with
    | cells cs T fr =>
      have h1 : cs[i]? = some v := by simpa [World.cell?, hb] using h
      have h2 : i < cs.size := (Array.getElem?_eq_some_iff.1 h1).1
      rw [cell_of_row _ g i _ _ _ (Vl.heap_set hb u)]
      simp [h2]
    | _ => simp [World.cell?, hb] at h
theorem cell_alloc {w : World} {a : Addr} {v : Value} (h : w.cell? a = some v) : ∀ o, (w.alloc o).cell? a = some v := fun o => (World.cell?_of_block (((Below.refl w.heap.size w).alloc (Nat.le_refl _) o).block a.block (World.block_lt_of_cell? w a h))).trans h
theorem cell_bel {w w' : World} {p : Addr} {x : Value} (h : w.cell? p = some x) (hb : Below w.heap.size w w') : w'.cell? p = some x :=
  (World.cell?_of_block (hb.block p.block (World.block_lt_of_cell? w p h))).trans h
/-- A row that has gone on stands where it stood, or in new memory. -/
def Gw (w : World) (v v' : Value) : Prop := ∀ k, v'.ownBlock = some k → v.ownBlock = some k ∨ w.heap.size ≤ k
theorem Gw.refl (w : World) (v : Value) : Gw w v v := fun _ h => .inl h

/-- One more element at the end of a row, and where it then stands. -/
theorem push_row (t e size bytes : Nat) (z : Value) (ht : Try.prog.underlying t = some (.slice e)) (hi : (Try.prog.info? e).map (fun i => (i.zero, i.size, i.bytes)) = some (some z, size, bytes)) (hzs : z.cells.size = size) (hs0 : 0 < size) (hby : bytes ≤ 1000)
    {W : World} {n : Nat} {v : Value} {xs : List Value} (h : W.ownsRow 0 e size v n xs) (cs : List Value) (hc : cs.length = size) (h1 : ∀ u ∈ cs, u.oneCell' = true) (hl : n ≤ 1000000) :
    ∃ g cap w3, (∀ ty, (Builtin.append_ #[t, t] ty #[v, .slice (some ⟨W.heap.size, 0, none⟩) 1 1]).run Try.prog (W.alloc (.cells cs.toArray e)) = .ok (.slice (some ⟨g, 0, none⟩) (n + 1) cap) w3) ∧
      Hid (w3.ownsRow 0 e size (.slice (some ⟨g, 0, none⟩) (n + 1) cap) (n + 1) (xs ++ cs)) ∧ Hid (Fr (fun k => v.ownBlock = some k) W w3) ∧ Hid (Gw W v (.slice (some ⟨g, 0, none⟩) (n + 1) cap)) := by
  obtain ⟨i, hi, hz, hsize, hbyt⟩ := info_parts hi
  have ha : (W.alloc (.cells cs.toArray e)).ownsRow 0 e size v n xs := h.alloc _
  have H := fun ty => run_append_own_at (P := Try.prog) (W.alloc (.cells cs.toArray e)) 0 t ty e i z size bytes ht hi hz hsize hbyt hzs hs0 v n xs ha ⟨W.heap.size, 0, none⟩ 1 1 cs (by omega) (fun j u hj => by
    rw [Addr.add_lit, Nat.zero_add, cell_of_row _ _ j _ _ _ (heap_alloc_new _ _)]
    simpa using hj) h1 (by simp only [maxLen]; omega) (by
      have : (n + 1) * bytes ≤ 1000001 * 1000 := Nat.mul_le_mul (by omega) hby
      omega) (by simp)
  obtain ⟨v', w', hr, g1, g2, _, g4⟩ := H 0
  have hF : Fr (fun k => v.ownBlock = some k) W w' := ((Fr.refl (fun k => v.ownBlock = some k) W).alloc (.cells cs.toArray e)).trans (Vl.Fr.of_grown (F := fun k => v.ownBlock = some k) g2 (fun k hk => hk)) (fun _ _ e => e)
  rcases Lx.own_shape g1 with ⟨_, h0⟩ | ⟨g', cap, rfl, _⟩
  · omega
  · refine ⟨g', cap, w', fun ty => hr, g1, hF, fun k hk => ?_⟩
    rcases g4 with g4 | g4
    · exact .inl (by rw [← g4]; exact hk)
    · rw [hk] at g4
      simp at g4
      exact .inr (by omega)

def num (a : Nat) : Value := .int .i64 (a : Int)
theorem own_ty {w : World} {b e s n : Nat} {v : Value} {xs : List Value} (h : w.ownsRow b e s v n xs) {k : Nat} {cs : Array Value} {T : TypeId} {fr : Nat × Nat} (hk : w.heap[k]? = some (.cells cs T fr)) (hT : T ≠ e) : v.ownBlock ≠ some k := fun hv => by
  obtain ⟨c, hc⟩ := own_blk h hv
  rw [hk] at hc
  simp at hc
  exact hT hc.2.1
theorem own_lt {w : World} {b e s n : Nat} {v : Value} {xs : List Value} (h : w.ownsRow b e s v n xs) {k : Nat} (hk : v.ownBlock = some k) : k < w.heap.size := by
  obtain ⟨c, hc⟩ := own_blk h hk
  exact (Array.getElem?_eq_some_iff.1 hc).1

end Go.Proofs.Ytdmhajeaphnebaa.Gr
namespace Go.Proofs.Ytdmhajeaphnebaa.Gr
open Go.RowKit
open Vl (Fr)

def upd {α : Type} (f : Nat → α) (i : Nat) (v : α) : Nat → α := fun k => if k = i then v else f k
theorem upd_s {α : Type} (f : Nat → α) (i : Nat) (v : α) : upd f i v i = v := by simp [upd]
theorem upd_o {α : Type} (f : Nat → α) {i k : Nat} (v : α) (h : k ≠ i) : upd f i v k = f k := by simp [upd, h]
def rowI (f : Nat → Int) (n : Nat) : List Value := (List.range n).map fun k => .int .i64 (f k)
theorem rowI_len (f : Nat → Int) (n : Nat) : (rowI f n).length = n := by simp [rowI]
theorem rowI_get (f : Nat → Int) {n k : Nat} (h : k < n) : (rowI f n)[k]? = some (.int .i64 (f k)) := by simp [rowI, h]
theorem rowI_set (f : Nat → Int) (n i : Nat) (v : Int) : (rowI f n).set i (.int .i64 v) = rowI (upd f i v) n := by
  apply List.ext_getElem?
  intro k
  by_cases hk : k < n
  · rw [rowI_get _ hk, List.getElem?_set]
    by_cases e : i = k
    · subst e; simp [rowI_len, hk, upd_s]
    · rw [if_neg e, rowI_get _ hk, upd_o _ _ (Ne.symm e)]
  · rw [List.getElem?_eq_none (by simp [rowI_len]; omega), List.getElem?_eq_none (by simp [rowI_len]; omega)]
def cellsP (l : List (Nat × Nat)) : List Value := l.flatMap fun p => [.int .i64 (p.1 : Int), .int .i64 (p.2 : Int)]
def cellsN (l : List (Nat × Bool)) : List Value := l.flatMap fun p => [.int .i64 (p.1 : Int), .bool p.2]
/-- What each predicate needs, in memory. -/
def NdIn (w : World) (nv : Value) (n : Nat) (nd : Nat → List (Nat × Bool)) : Prop := ∃ V : Nat → Value, w.ownsRow 0 80 1 nv n ((List.range n).map V) ∧ ∀ v, v < n → w.ownsRow 0 82 2 (V v) (nd v).length (cellsN (nd v))
def apart (a b : Value) : Prop := ∀ k, a.ownBlock = some k → b.ownBlock ≠ some k
/-- What the walk's calls may turn. -/
def FK (qb : Nat) (pv ov mv lv sv : Value) : Nat → Prop := fun k => k = qb ∨ pv.ownBlock = some k ∨ ov.ownBlock = some k ∨ mv.ownBlock = some k ∨ lv.ownBlock = some k ∨ sv.ownBlock = some k
/-- The walk's own blocks are new since w0; what was there is as it was. -/
def Lo (w0 w : World) (qb : Nat) (pv ov mv lv sv : Value) : Prop := Below w0.heap.size w0 w ∧ ∀ k, FK qb pv ov mv lv sv k → w0.heap.size ≤ k
theorem Lo.drew {w0 w : World} {qb : Nat} {pv ov mv lv sv : Value} (h : Lo w0 w qb pv ov mv lv sv) : Lo w0 w.drew qb pv ov mv lv sv := ⟨h.1.drew, h.2⟩
theorem Lo.fr {w0 w w' : World} {qb : Nat} {pv ov mv lv sv : Value} (h : Lo w0 w qb pv ov mv lv sv) {F : Nat → Prop} (hf : Fr F w w') (hF : ∀ k, F k → FK qb pv ov mv lv sv k) : Lo w0 w' qb pv ov mv lv sv := ⟨h.1.trans (hf.below (fun k hk => h.2 k (hF k hk)) h.1.size), h.2⟩
theorem Lo.one {w0 w : World} {qb : Nat} {pv ov mv lv sv : Value} (h : Lo w0 w qb pv ov mv lv sv) {k : Nat} (hk : FK qb pv ov mv lv sv k) (i : Nat) (u : Value) : Lo w0 (w.setCell ⟨k, i, none⟩ u) qb pv ov mv lv sv := h.fr (Vl.Fr.one w k i u) (fun _ e => e ▸ hk)
theorem Lo.newO {w0 w w' : World} {qb : Nat} {pv ov mv lv sv ov' : Value} (h : Lo w0 w qb pv ov mv lv sv) (h' : Lo w0 w' qb pv ov mv lv sv) (hg : Gw w ov ov') : Lo w0 w' qb pv ov' mv lv sv := ⟨h'.1, fun k hk => by
  rcases hk with hk | hk | hk | hk
  · exact h.2 k (.inl hk)
  · exact h.2 k (.inr (.inl hk))
  · rcases hg k hk with h1 | h1
    · exact h.2 k (.inr (.inr (.inl h1)))
    · exact Nat.le_trans h.1.size h1
  · exact h.2 k (.inr (.inr (.inr hk)))⟩
theorem Lo.newP {w0 w w' : World} {qb : Nat} {pv ov mv lv sv pv' : Value} (h : Lo w0 w qb pv ov mv lv sv) (h' : Lo w0 w' qb pv ov mv lv sv) (hg : Gw w pv pv') : Lo w0 w' qb pv' ov mv lv sv := ⟨h'.1, fun k hk => by
  rcases hk with hk | hk | hk
  · exact h.2 k (.inl hk)
  · rcases hg k hk with h1 | h1
    · exact h.2 k (.inr (.inl h1))
    · exact Nat.le_trans h.1.size h1
  · exact h.2 k (.inr (.inr hk))⟩
/-- The walk in memory. -/
structure Wk (w0 w : World) (qb : Nat) (nv pv ov mv lv sv : Value) (n cnt : Nat) (path : List (Nat × Nat)) (opn : List Nat) (met low st : Nat → Int) (nd : Nat → List (Nat × Bool)) : Prop where
  b : w.heap[qb]? = some (.cells #[nv, pv, ov, .int .i64 (cnt : Int), mv, lv, sv] 78 (0, 0))
  p : w.ownsRow 0 95 2 pv path.length (cellsP path)
  o : w.ownsRow 0 3 1 ov opn.length (opn.map num)
  m : w.ownsRow 0 3 1 mv n (rowI met n)
  l : w.ownsRow 0 3 1 lv n (rowI low n)
  s : w.ownsRow 0 3 1 sv n (rowI st n)
  nd : NdIn w nv n nd
  om : apart ov mv
  ol : apart ov lv
  os : apart ov sv
  ml : apart mv lv
  ms : apart mv sv
  ls : apart lv sv
  z : Lo w0 w qb pv ov mv lv sv
variable {w0 w w' : World} {qb : Nat} {nv pv ov mv lv sv : Value} {n cnt : Nat} {path : List (Nat × Nat)} {opn : List Nat} {met low st : Nat → Int} {nd : Nat → List (Nat × Bool)}
theorem apart.symm {a b : Value} (h : apart a b) : apart b a := fun k hb ha => h k ha hb
theorem NdIn.fr {F : Nat → Prop} (h : NdIn w nv n nd) (hf : Fr F w w') (hF : ∀ k, F k → ∀ cs T fr, w.heap[k]? = some (.cells cs T fr) → T ≠ 80 ∧ T ≠ 82) : NdIn w' nv n nd := by
  obtain ⟨V, h1, h2⟩ := h
  have hk : ∀ {e s c : Nat} {u : Value} {xs : List Value}, (e = 80 ∨ e = 82) → w.ownsRow 0 e s u c xs → w'.ownsRow 0 e s u c xs := by
    intro e s c u xs he ho
    refine own_of_cell ho hf (fun k hk hu => ?_)
    obtain ⟨cs, hc⟩ := own_blk ho hu
    have h0 := hF k hk _ _ _ hc
    rcases he with rfl | rfl
    · exact h0.1 rfl
    · exact h0.2 rfl
  exact ⟨V, hk (.inl rfl) h1, fun v hv => hk (.inr rfl) (h2 v hv)⟩
theorem Wk.c (h : Wk w0 w qb nv pv ov mv lv sv n cnt path opn met low st nd) : w.cell? ⟨qb, 0, none⟩ = some nv ∧ w.cell? ⟨qb, 1, none⟩ = some pv ∧ w.cell? ⟨qb, 2, none⟩ = some ov ∧ w.cell? ⟨qb, 3, none⟩ = some (.int .i64 (cnt : Int)) ∧ w.cell? ⟨qb, 4, none⟩ = some mv ∧ w.cell? ⟨qb, 5, none⟩ = some lv ∧ w.cell? ⟨qb, 6, none⟩ = some sv := by
  refine ⟨?_, ?_, ?_, ?_, ?_, ?_, ?_⟩
  all_goals rw [cell_of_row w qb _ _ _ _ h.b]
  all_goals rfl
theorem Wk.fz (h : Wk w0 w qb nv pv ov mv lv sv n cnt path opn met low st nd) (i : Nat) : w.frozen? ⟨qb, i, none⟩ = false := frozen_of_row w qb i _ _ h.b
/-- A row of numbers of the walk's, and what is stored there. -/
theorem Wk.setM {gm cm : Nat} (h : Wk w0 w qb nv pv ov (.slice (some ⟨gm, 0, none⟩) n cm) lv sv n cnt path opn met low st nd) (i : Nat) (v : Int) : Wk w0 (w.setCell ⟨gm, i, none⟩ (.int .i64 v)) qb nv pv ov (.slice (some ⟨gm, 0, none⟩) n cm) lv sv n cnt path opn (upd met i v) low st nd := by
  have hf : Fr (fun k => k = gm) w (w.setCell ⟨gm, i, none⟩ (.int .i64 v)) := Vl.Fr.one _ _ _ _
  obtain ⟨cur, hg⟩ := own_blk h.m (k := gm) rfl
  have hq : qb ≠ gm := fun e => by subst e; rw [h.b] at hg; simp at hg
  have hm := own_set (j := i) h.m (.int .i64 v)
  rw [rowI_set] at hm
  refine ⟨(hf.block qb (Array.getElem?_eq_some_iff.1 h.b).1 hq).trans h.b, own_of_cell h.p hf (fun k hk hu => by subst hk; exact own_ty h.p hg (by decide) hu), own_of_cell h.o hf (fun k hk hu => by subst hk; exact h.om k hu rfl), hm, own_of_cell h.l hf (fun k hk hu => by subst hk; exact h.ml k rfl hu), own_of_cell h.s hf (fun k hk hu => by subst hk; exact h.ms k rfl hu), h.nd.fr hf (fun k hk cs T fr hc => ?_), h.om, h.ol, h.os, h.ml, h.ms, h.ls, h.z.one (.inr (.inr (.inr (.inl rfl)))) _ _⟩
  subst hk
  rw [hg] at hc
  simp at hc
  obtain ⟨_, rfl, _⟩ := hc
  decide
theorem Wk.setL {gm cm : Nat} (h : Wk w0 w qb nv pv ov mv (.slice (some ⟨gm, 0, none⟩) n cm) sv n cnt path opn met low st nd) (i : Nat) (v : Int) : Wk w0 (w.setCell ⟨gm, i, none⟩ (.int .i64 v)) qb nv pv ov mv (.slice (some ⟨gm, 0, none⟩) n cm) sv n cnt path opn met (upd low i v) st nd := by
  have hf : Fr (fun k => k = gm) w (w.setCell ⟨gm, i, none⟩ (.int .i64 v)) := Vl.Fr.one _ _ _ _
  obtain ⟨cur, hg⟩ := own_blk h.l (k := gm) rfl
  have hq : qb ≠ gm := fun e => by subst e; rw [h.b] at hg; simp at hg
  have hm := own_set (j := i) h.l (.int .i64 v)
  rw [rowI_set] at hm
  refine ⟨(hf.block qb (Array.getElem?_eq_some_iff.1 h.b).1 hq).trans h.b, own_of_cell h.p hf (fun k hk hu => by subst hk; exact own_ty h.p hg (by decide) hu), own_of_cell h.o hf (fun k hk hu => by subst hk; exact h.ol k hu rfl), own_of_cell h.m hf (fun k hk hu => by subst hk; exact h.ml k hu rfl), hm, own_of_cell h.s hf (fun k hk hu => by subst hk; exact h.ls k rfl hu), h.nd.fr hf (fun k hk cs T fr hc => ?_), h.om, h.ol, h.os, h.ml, h.ms, h.ls, h.z.one (.inr (.inr (.inr (.inr (.inl rfl))))) _ _⟩
  subst hk
  rw [hg] at hc
  simp at hc
  obtain ⟨_, rfl, _⟩ := hc
  decide
theorem Wk.setS {gm cm : Nat} (h : Wk w0 w qb nv pv ov mv lv (.slice (some ⟨gm, 0, none⟩) n cm) n cnt path opn met low st nd) (i : Nat) (v : Int) : Wk w0 (w.setCell ⟨gm, i, none⟩ (.int .i64 v)) qb nv pv ov mv lv (.slice (some ⟨gm, 0, none⟩) n cm) n cnt path opn met low (upd st i v) nd := by
  have hf : Fr (fun k => k = gm) w (w.setCell ⟨gm, i, none⟩ (.int .i64 v)) := Vl.Fr.one _ _ _ _
  obtain ⟨cur, hg⟩ := own_blk h.s (k := gm) rfl
  have hq : qb ≠ gm := fun e => by subst e; rw [h.b] at hg; simp at hg
  have hm := own_set (j := i) h.s (.int .i64 v)
  rw [rowI_set] at hm
  refine ⟨(hf.block qb (Array.getElem?_eq_some_iff.1 h.b).1 hq).trans h.b, own_of_cell h.p hf (fun k hk hu => by subst hk; exact own_ty h.p hg (by decide) hu), own_of_cell h.o hf (fun k hk hu => by subst hk; exact h.os k hu rfl), own_of_cell h.m hf (fun k hk hu => by subst hk; exact h.ms k hu rfl), own_of_cell h.l hf (fun k hk hu => by subst hk; exact h.ls k hu rfl), hm, h.nd.fr hf (fun k hk cs T fr hc => ?_), h.om, h.ol, h.os, h.ml, h.ms, h.ls, h.z.one (.inr (.inr (.inr (.inr (.inr rfl))))) _ _⟩
  subst hk
  rw [hg] at hc
  simp at hc
  obtain ⟨_, rfl, _⟩ := hc
  decide
/-- A store into the walk's own block. -/
theorem Wk.fr_q (h : Wk w0 w qb nv pv ov mv lv sv n cnt path opn met low st nd) (i : Nat) (u : Value) : (∀ {e s c : Nat} {x : Value} {xs : List Value}, w.ownsRow 0 e s x c xs → e ≠ 78 → (w.setCell ⟨qb, i, none⟩ u).ownsRow 0 e s x c xs) ∧ NdIn (w.setCell ⟨qb, i, none⟩ u) nv n nd := by
  have hf : Fr (fun k => k = qb) w (w.setCell ⟨qb, i, none⟩ u) := Vl.Fr.one _ _ _ _
  refine ⟨fun {e s c x xs} ho he => own_of_cell ho hf (fun k hk hu => by subst hk; exact own_ty ho h.b (fun e' => he e'.symm) hu), h.nd.fr hf (fun k hk cs T fr hc => ?_)⟩
  subst hk
  rw [h.b] at hc
  simp at hc
  obtain ⟨_, rfl, _⟩ := hc
  decide
theorem Wk.setC (h : Wk w0 w qb nv pv ov mv lv sv n cnt path opn met low st nd) (c : Nat) : Wk w0 (w.setCell ⟨qb, 3, none⟩ (.int .i64 (c : Int))) qb nv pv ov mv lv sv n c path opn met low st nd := by
  obtain ⟨hr, hn⟩ := h.fr_q 3 (.int .i64 (c : Int))
  exact ⟨by rw [Vl.heap_set h.b]; rfl, hr h.p (by decide), hr h.o (by decide), hr h.m (by decide), hr h.l (by decide), hr h.s (by decide), hn, h.om, h.ol, h.os, h.ml, h.ms, h.ls, h.z.one (.inl rfl) _ _⟩
/-- The row of those that are open, or the path, has gone on. -/
theorem Wk.grow {F : Nat → Prop} {w3 : World} (h : Wk w0 w qb nv pv ov mv lv sv n cnt path opn met low st nd) (hf : Fr F w w3) (hF : ∀ k, F k → ∀ cs T fr, w.heap[k]? = some (.cells cs T fr) → T ≠ 80 ∧ T ≠ 82 ∧ T ≠ 78) (hm : ∀ k, F k → mv.ownBlock ≠ some k) (hl : ∀ k, F k → lv.ownBlock ≠ some k) (hs : ∀ k, F k → sv.ownBlock ≠ some k) :
    w3.heap[qb]? = some (.cells #[nv, pv, ov, .int .i64 (cnt : Int), mv, lv, sv] 78 (0, 0)) ∧ w3.ownsRow 0 3 1 mv n (rowI met n) ∧ w3.ownsRow 0 3 1 lv n (rowI low n) ∧ w3.ownsRow 0 3 1 sv n (rowI st n) ∧ NdIn w3 nv n nd :=
  ⟨(hf.block qb (Array.getElem?_eq_some_iff.1 h.b).1 (fun hk => (hF qb hk _ _ _ h.b).2.2 rfl)).trans h.b, own_of_cell h.m hf hm, own_of_cell h.l hf hl, own_of_cell h.s hf hs, h.nd.fr hf (fun k hk cs T fr hc => ⟨(hF k hk cs T fr hc).1, (hF k hk cs T fr hc).2.1⟩)⟩
theorem Wk.pushO (h : Wk w0 w qb nv pv ov mv lv sv n cnt path opn met low st nd) (a : Nat) {w3 : World} {g c : Nat}
    (k1 : w3.ownsRow 0 3 1 (.slice (some ⟨g, 0, none⟩) (opn.length + 1) c) (opn.length + 1) (opn.map num ++ [.int .i64 (a : Int)])) (k2 : Fr (fun k => ov.ownBlock = some k) w w3) (k3 : Gw w ov (.slice (some ⟨g, 0, none⟩) (opn.length + 1) c)) :
    Wk w0 (w3.setCell ⟨qb, 2, none⟩ (.slice (some ⟨g, 0, none⟩) (opn.length + 1) c)) qb nv pv (.slice (some ⟨g, 0, none⟩) (opn.length + 1) c) mv lv sv n cnt path (opn ++ [a]) met low st nd := by
  obtain ⟨b3, m3, l3, s3, n3⟩ := h.grow k2 (fun k hk cs T fr hc => by
    obtain ⟨cur, hg⟩ := own_blk h.o hk
    rw [hg] at hc
    simp at hc
    obtain ⟨_, rfl, _⟩ := hc
    decide) h.om h.ol h.os
  have p3 : w3.ownsRow 0 95 2 pv path.length (cellsP path) := own_of_cell h.p k2 (fun k hk => Vl.own_ne h.o h.p (by decide) hk)
  have hq : ∀ {e s c' : Nat} {x : Value} {xs : List Value}, w3.ownsRow 0 e s x c' xs → e ≠ 78 → (w3.setCell ⟨qb, 2, none⟩ (.slice (some ⟨g, 0, none⟩) (opn.length + 1) c)).ownsRow 0 e s x c' xs := fun {e s c' x xs} ho he => own_of_cell ho (Vl.Fr.one w3 qb 2 _) (fun k hk hu => by subst hk; exact own_ty ho b3 (fun e' => he e'.symm) hu)
  have ap : ∀ x : Value, apart ov x → (∀ k, x.ownBlock = some k → k < w.heap.size) → apart (.slice (some ⟨g, 0, none⟩) (opn.length + 1) c) x := fun x hx hlt k hk hxk => by
    rcases k3 k hk with h5 | h5
    · exact hx k h5 hxk
    · have := hlt k hxk; omega
  refine ⟨by rw [Vl.heap_set b3]; rfl, hq p3 (by decide), ?_, hq m3 (by decide), hq l3 (by decide), hq s3 (by decide), n3.fr (Vl.Fr.one w3 qb 2 _) (fun k hk cs T fr hc => ?_), ap _ h.om (fun k hk => own_lt h.m hk), ap _ h.ol (fun k hk => own_lt h.l hk), ap _ h.os (fun k hk => own_lt h.s hk), h.ml, h.ms, h.ls, h.z.newO ((h.z.fr k2 (fun k hk => .inr (.inr (.inl hk)))).one (.inl rfl) _ _) k3⟩
  · have h1 := hq k1 (by decide)
    have e : opn.map num ++ [.int .i64 (a : Int)] = (opn ++ [a]).map num := by simp [num]
    rw [e] at h1
    simpa using h1
  · subst hk
    rw [b3] at hc
    simp at hc
    obtain ⟨_, rfl, _⟩ := hc
    decide
theorem Wk.pushP (h : Wk w0 w qb nv pv ov mv lv sv n cnt path opn met low st nd) (a : Nat) {w3 : World} {g c : Nat}
    (k1 : w3.ownsRow 0 95 2 (.slice (some ⟨g, 0, none⟩) (path.length + 1) c) (path.length + 1) (cellsP path ++ [.int .i64 (a : Int), .int .i64 0])) (k2 : Fr (fun k => pv.ownBlock = some k) w w3) (k3 : Gw w pv (.slice (some ⟨g, 0, none⟩) (path.length + 1) c)) :
    Wk w0 (w3.setCell ⟨qb, 1, none⟩ (.slice (some ⟨g, 0, none⟩) (path.length + 1) c)) qb nv (.slice (some ⟨g, 0, none⟩) (path.length + 1) c) ov mv lv sv n cnt (path ++ [(a, 0)]) opn met low st nd := by
  obtain ⟨b3, m3, l3, s3, n3⟩ := h.grow k2 (fun k hk cs T fr hc => by
    obtain ⟨cur, hg⟩ := own_blk h.p hk
    rw [hg] at hc
    simp at hc
    obtain ⟨_, rfl, _⟩ := hc
    decide) (fun k hk => Vl.own_ne h.p h.m (by decide) hk) (fun k hk => Vl.own_ne h.p h.l (by decide) hk) (fun k hk => Vl.own_ne h.p h.s (by decide) hk)
  have o3 : w3.ownsRow 0 3 1 ov opn.length (opn.map num) := own_of_cell h.o k2 (fun k hk => Vl.own_ne h.p h.o (by decide) hk)
  have hq : ∀ {e s c' : Nat} {x : Value} {xs : List Value}, w3.ownsRow 0 e s x c' xs → e ≠ 78 → (w3.setCell ⟨qb, 1, none⟩ (.slice (some ⟨g, 0, none⟩) (path.length + 1) c)).ownsRow 0 e s x c' xs := fun {e s c' x xs} ho he => own_of_cell ho (Vl.Fr.one w3 qb 1 _) (fun k hk hu => by subst hk; exact own_ty ho b3 (fun e' => he e'.symm) hu)
  refine ⟨by rw [Vl.heap_set b3]; rfl, ?_, hq o3 (by decide), hq m3 (by decide), hq l3 (by decide), hq s3 (by decide), n3.fr (Vl.Fr.one w3 qb 1 _) (fun k hk cs T fr hc => ?_), h.om, h.ol, h.os, h.ml, h.ms, h.ls, h.z.newP ((h.z.fr k2 (fun k hk => .inr (.inl hk))).one (.inl rfl) _ _) k3⟩
  · have h1 := hq k1 (by decide)
    have e : cellsP path ++ [.int .i64 (a : Int), .int .i64 0] = cellsP (path ++ [(a, 0)]) := by simp [cellsP]
    rw [e] at h1
    simpa using h1
  · subst hk
    rw [b3] at hc
    simp at hc
    obtain ⟨_, rfl, _⟩ := hc
    decide
end Go.Proofs.Ytdmhajeaphnebaa.Gr
