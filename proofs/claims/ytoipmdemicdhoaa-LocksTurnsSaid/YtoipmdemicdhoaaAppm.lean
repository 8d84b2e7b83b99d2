/- append onto the call's own row, from a slice of whatever make. -/
import Derived.Test.YtoipmdemicdhoaaMem
import Derived.Deep.RegionLawGrows

namespace Go.Proofs.Ytoipmdemicdhoaa
set_option maxRecDepth 100000
open Go.RowKit

theorem Try.infoU8 : (Try.prog.info? 5).map (fun i => (i.zero, i.size, i.bytes)) = some (some (.int .u8 0), 1, 1) := by kernel_rfl

theorem run_append_mine {P : Program} {w : World} (base : Nat) (t ty e : TypeId) (i : TypeInfo) (z : Value) (size bytes : Nat) (h1 : P.underlying t = some (.slice e)) (h2 : P.info? e = some i) (h3 : i.zero = some z) (h4 : i.size = size) (h5 : i.bytes = bytes) (h6 : z.cells.size = size) (h7 : 0 < size)
    (g0 cap0 n : Nat) (xs : List Value) (hown : w.ownsRow base e size (.slice (some ⟨g0, 0, none⟩) n cap0) n xs)
    (sp : Option Addr) (m c : Nat) (news : List Value) (hn : news.length = m * size) (hsp : sp = none → m = 0 ∧ c = 0) (hc : 0 < m → ∃ ad, sp = some ad ∧ ∀ j u, news[j]? = some u → w.cell? (ad.add j) = some u) (h1c : ∀ u ∈ news, u.oneCell' = true)
    (b1 : n + m ≤ maxLen) (b2 : (n + m) * bytes ≤ 140737488355328) (hbase : base ≤ w.heap.size) :
    ∃ g cap w', (Builtin.append_ #[t, t] ty #[.slice (some ⟨g0, 0, none⟩) n cap0, .slice sp m c]).run P w = .ok (.slice (some ⟨g, 0, none⟩) (n + m) cap) w' ∧ w'.ownsRow base e size (.slice (some ⟨g, 0, none⟩) (n + m) cap) (n + m) (xs ++ news) ∧ w.grownBy w' (some g0) := by
  cases sp with
  | none =>
    obtain ⟨rfl, rfl⟩ := hsp rfl
    obtain rfl : news = [] := List.eq_nil_of_length_eq_zero (by simpa using hn)
    refine ⟨g0, cap0, w, run_append_owned_none w base t ty e i size h1 h2 _ n xs hown, by simpa using hown, ⟨rfl, rfl, rfl, Nat.le_refl _, fun _ _ _ => rfl⟩⟩
  | some ad =>
    have hc' : ∀ j u, news[j]? = some u → w.cell? (ad.add j) = some u := by
      intro j u hj
      have hlt : j < news.length := (List.getElem?_eq_some_iff.1 hj).1
      have hm : 0 < m := by
        rcases Nat.eq_zero_or_pos m with h | h
        · subst h; simp at hn; rw [hn] at hlt; simp at hlt
        · exact h
      obtain ⟨ad', he, h⟩ := hc hm
      injection he with he
      subst he
      exact h j u hj
    obtain ⟨v', w', hrun, r1, r2, r3⟩ := run_append_own (P := P) w base t ty e i z size bytes h1 h2 h3 h4 h5 h6 h7 _ n xs hown ad m c news hn hc' h1c b1 b2 hbase
    have hsh : ∃ g cap, v' = .slice (some ⟨g, 0, none⟩) (n + m) cap := by
      rcases r1.2 with ⟨h, _⟩ | ⟨g, cap, _, h, _⟩
      · have := (r3.1 h).1; simp at this
      · exact ⟨g, cap, h⟩
    obtain ⟨g, cap, rfl⟩ := hsh
    exact ⟨g, cap, w', hrun, r1, r2⟩

end Go.Proofs.Ytoipmdemicdhoaa
