/- The law WalForged, behind its loop: a log opened on any files goes on. -/
import Derived.Test.YtnbdkojdddplkaaDoorWlSmall
namespace Go.Proofs.YtnbdkojdddplkaaDoor.Wl
open Go.RowKit Dk

def Nm (fs : List Fl) : Prop := ∀ f ∈ fs, f.name.size ≤ maxLen
theorem nmW_size : nmW.size ≤ maxLen := by decide
theorem ins_nm (f : Fl) (hf : f.name.size ≤ maxLen) : ∀ fs : List Fl, Nm fs → Nm (Dk.ins f fs)
  | [], _ => fun x hx => by simp [Dk.ins] at hx; rw [hx]; exact hf
  | x :: r, h => by
    have ih := ins_nm f hf r (fun y hy => h y (List.mem_cons_of_mem _ hy))
    unfold Dk.ins
    split
    · intro y hy
      rcases List.mem_cons.1 hy with rfl | hy
      · exact hf
      · exact h y hy
    · intro y hy
      rcases List.mem_cons.1 hy with rfl | hy
      · exact h y List.mem_cons_self
      · exact ih y hy
theorem del_nm (n : ByteArray) (fs : List Fl) (h : Nm fs) : Nm (Dk.del n fs) := fun x hx => h x (List.mem_filter.1 hx).1
theorem strays_nm : ∀ (ns : List ByteArray) (s : St), Nm s.now → Nm (strays s ns).now
  | [], s, h => h
  | n :: ns, s, h => by
    have h2 : Nm (strayStep s n).now := by
      unfold strayStep rmStep
      split
      · split
        · rw [St.push_now]; exact del_nm n _ h
        · exact h
      · exact h
    have h1 := strays_nm ns (strayStep s n) h2
    unfold strays at h1 ⊢
    rw [List.foldl_cons]
    exact h1
theorem openS_nm (s : St) (h : Nm s.now) : Nm (openS s).now := by
  have h1 := strays_nm (s.now.map Fl.name) s h
  unfold openS
  split
  · rw [St.push_now]
    unfold Dk.ap
    simp only
    split
    · exact ins_nm _ nmW_size _ (del_nm _ _ h1)
    · exact h1
  · exact h1
theorem app_nm (fs : List Fl) (X : List UInt8) (h : Nm fs) : Nm (Dk.ap fs (.app nmW X)) := ins_nm _ nmW_size _ (del_nm _ _ h)
theorem fileB_long : ∀ (ds : List (List UInt8)) (n : Int), ds.length ≤ (fileB n ds).length
  | [], n => by simp [fileB]
  | d :: r, n => by
    have h1 := fileB_long r (n + 1)
    have h2 : 8 ≤ (recB n d).length := by unfold recB; rw [Fr.seal_len]; omega
    rw [fileB, List.length_cons, List.length_append]
    omega
theorem app_file (fs : List Fl) (X : List UInt8) : ((Dk.look nmW (Dk.ap fs (.app nmW X))).map Fl.bs).getD [] = ((Dk.look nmW fs).map Fl.bs).getD [] ++ X := by
  unfold Dk.ap
  simp only
  rw [look_ins ⟨nmW, _⟩ _ (del_ne nmW _)]
  rfl
theorem fileB_snoc (g : Int) (ds : List (List UInt8)) (d : List UInt8) (n : Int) (h : n = lastL g ds + 1) : fileB g ds ++ recB n d = fileB (if ds.length = 0 then n else g) (ds ++ [d]) := by
  unfold lastL at h
  rw [fileB_append]
  by_cases hd : ds.length = 0
  · have : ds = [] := List.eq_nil_of_length_eq_zero hd
    subst this
    simp [fileB]
  · rw [if_neg hd] at h ⊢
    have e : g + (ds.length : Int) = n := by omega
    rw [e]
    simp [fileB]

/-- A log that was opened on any files. -/
structure FG (w0 w : World) (p pd : Nat) (s : St) (F : Nat → Prop) (g : Int) (ds : List (List UInt8)) : Prop where
  lw : LW w w0.heap.size p pd s F g ds
  own : fileOf s nmW = fileB g ds
  room : s.room = 1048576
  len : s.now.length ≤ 20
  mass : s.mass ≤ 10000
  nm : Nm s.now
  inF : ∀ k, F k → w0.heap.size ≤ k
  bel : Below w0.heap.size w0 w
  small : (fileB g ds).length ≤ 5000
  d : ∀ d ∈ ds, d.length ≤ 32768
  g0 : ds ≠ [] → 1 ≤ g ∧ g + ds.length ≤ 9223372036854775808
theorem FG.below {w0 w w' : World} {p pd : Nat} {s : St} {F : Nat → Prop} {g : Int} {ds : List (List UInt8)} (h : FG w0 w p pd s F g ds) (hb : Below w.heap.size w w') : FG w0 w' p pd s F g ds :=
  ⟨h.lw.below hb, h.own, h.room, h.len, h.mass, h.nm, h.inF, h.bel.trans (hb.mono h.bel.size), h.small, h.d, h.g0⟩
theorem FG.open {w0 w : World} {pd : Nat} {s : St} {F : Nat → Prop} (hD : Dk w pd s F) (hT : ∀ u, Below w0.heap.size w0 u → Fr.Tab u) (hw0 : 0 < w0.heap.size) (hr : s.room = 1048576) (hl : s.now.length ≤ 20) (hm : s.mass ≤ 9000) (hn : Nm s.now) (hF : ∀ k, F k → w0.heap.size ≤ k) (hb : Below w0.heap.size w0 w) (hf : (fileOf s nmW).length ≤ 5000) (g : Int) (ds : List (List UInt8)) (hR : loadR (Fr.scanL (fileOf s nmW)).1 0 [] = (g, ds)) :
    Calls Tryd.prog 11 #[.pointer (some ⟨pd, 0, none⟩)] w fun e w' => ∃ p, e = .returned (.tuple #[.pointer (some ⟨p, 0, none⟩), .int .i64 0]) ∧ Hid (∃ F', FG w0 w' p pd (openS s) F' g ds ∧ ∀ k, F' k → F k ∨ w.heap.size ≤ k) := by
  have hs := hb.size
  refine (open_any pd s F w hD (hT w hb) (fun h0 => by have := hF 0 h0; omega) (by omega) hn (by omega) g ds hR).mono ?_
  rintro e w' ⟨p, rfl, ⟨F', hL, hF'⟩, hfr⟩
  obtain ⟨l1, l2, l3, l4, l5⟩ := load_any _ g ds hR
  have hml := openS_mass s
  have hll := openS_len s
  refine ⟨p, rfl, F', ⟨⟨hL.dk, ?_, hL.np, by have := hL.new; omega⟩, open_file s g ds hR, (openS_room s).trans hr, by omega, by omega, openS_nm s hn, fun k hk => ?_, hb.trans (hfr.below hF hs), Nat.le_trans l1.length_le hf, l3, l4⟩, hF'⟩
  · obtain ⟨vr, rs, G, a1, a2, a3⟩ := hL.lg
    exact ⟨vr, rs, G, a1, a2, fun k hk => ⟨(a3 k hk).1, by have := (a3 k hk).2; omega⟩⟩
  · rcases hF' k hk with hh | hh
    · exact hF k hh
    · omega
end Go.Proofs.YtnbdkojdddplkaaDoor.Wl
