/- Contract: Same of two records. -/
import Derived.Test.YtjdfdihopgceoaaCdSm
namespace Go.Proofs.Ytjdfdihopgceoaa.Cd
open Go.RowKit Go.Shelf Go.Dk Go.Jn Go.Cod

theorem OkRc.inR {r : Rc} (h : OkRc true r) : InR r := ⟨h.cmd.fare, h.cmd.pen, h.cmd.am, h.msg, fun x hx => (h.cmd.taxes.2.2 x hx).2.2, h.cmd.legs.1, h.cmd.taxes.1⟩
theorem same_any {r s : Rc} (hr : InR r) (hs : InR s) (lp tp lq tq : Option Addr) (lc tc ld td : Nat) (w : World)
    (hla : RowF w (· < w.heap.size) (.slice lp r.cmd.legs.length lc) r.cmd.legs.length (flt lgC r.cmd.legs)) (hta : RowF w (· < w.heap.size) (.slice tp r.cmd.taxes.length tc) r.cmd.taxes.length (flt txC r.cmd.taxes))
    (hlb : RowF w (· < w.heap.size) (.slice lq s.cmd.legs.length ld) s.cmd.legs.length (flt lgC s.cmd.legs)) (htb : RowF w (· < w.heap.size) (.slice tq s.cmd.taxes.length td) s.cmd.taxes.length (flt txC s.cmd.taxes)) :
    Calls Try.prog 14 #[.agg (recC r (.slice lp r.cmd.legs.length lc) (.slice tp r.cmd.taxes.length tc)).toArray, .agg (recC s (.slice lq s.cmd.legs.length ld) (.slice tq s.cmd.taxes.length td)).toArray] w (SmP r s w) := by
  have ha := hr.msg.1
  have hb := hs.msg.1
  obtain ⟨ak, ⟨ack, acar, aser, apos, anm, aL, afare, aT, apen, aam⟩, afrm, anum, amsg⟩ := r
  obtain ⟨bk, ⟨bck, bcar, bser, bpos, bnm, bL, bfare, bT, bpen, bam⟩, bfrm, bnum, bmsg⟩ := s
  simp only at ha hb
  match amsg, ha, bmsg, hb with
  | [am0, am1, am2, am3, am4, am5, am6, am7, am8, am9, am10, am11], _, [bm0, bm1, bm2, bm3, bm4, bm5, bm6, bm7, bm8, bm9, bm10, bm11], _ =>
    exact same_l ak ack acar aser apos afare apen aam afrm anum am0 am1 am2 am3 am4 am5 am6 am7 am8 am9 am10 am11 bk bck bcar bser bpos bfare bpen bam bfrm bnum bm0 bm1 bm2 bm3 bm4 bm5 bm6 bm7 bm8 bm9 bm10 bm11 anm bnm aL bL aT bT lp tp lq tq lc tc ld td w hr hs hla hta hlb htb
end Go.Proofs.Ytjdfdihopgceoaa.Cd
