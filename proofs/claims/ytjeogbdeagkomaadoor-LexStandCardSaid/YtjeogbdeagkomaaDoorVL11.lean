/- Package lex: read, whoever reads. -/
import Derived.Test.YtjeogbdeagkomaaDoorVL9a
import Derived.Test.YtjeogbdeagkomaaDoorVL9b
import Derived.Test.YtjeogbdeagkomaaDoorVL9c
import Derived.Test.YtjeogbdeagkomaaDoorVL9d
import Derived.Test.YtjeogbdeagkomaaDoorVL9e
namespace Go.Proofs.YtjeogbdeagkomaaDoor
open Go.RowKit Nm Bset Lm

theorem lmay_any (x : Lw) (hk : x.kind < 256) (hs : x.text.size < 9223372036854775807) (w : World) :
    Calls Tryd.prog 60 #[lwV x] w fun e w' => e = .returned (.bool (mayW x)) ∧ Below w.heap.size w w' := by
  obtain ⟨k, ki, kl, kt, ks, klo, khi⟩ := x
  simp only at hk hs
  by_cases h1 : k = 1
  · subst h1
    exact lmay_name ki kl kt ks klo khi hs w
  by_cases h2 : k = 14
  · subst h2
    exact lmay_count ki kl kt ks klo khi hs w
  by_cases h3 : k = 15
  · subst h3
    exact lmay_lit ki kl kt ks klo khi hs w
  by_cases h4 : k = 16
  · subst h4
    exact lmay_class ki kl kt ks klo khi hs w
  by_cases h5 : k < 1
  · exact lmay_zero ki kl kt ks klo khi hs w k h1 h2 h3 h4 hk h5
  by_cases h6 : k ≤ 16
  · exact lmay_sign ki kl kt ks klo khi hs w k h1 h2 h3 h4 hk (by omega) h6
  · exact lmay_over ki kl kt ks klo khi hs w k h1 h2 h3 h4 hk (by omega)
end Go.Proofs.YtjeogbdeagkomaaDoor
