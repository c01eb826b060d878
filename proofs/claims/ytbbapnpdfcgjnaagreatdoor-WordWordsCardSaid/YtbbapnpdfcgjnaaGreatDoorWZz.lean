/- Zz: parts of the proof, joined. -/
set_option maxHeartbeats 64000000
namespace Go.Proofs.YtbbapnpdfcgjnaaGreatDoor
section
def ae (p:Prop):Prop:=p
theorem aa {p:Prop} (h:p):ae p:=h
theorem ae.o {p:Prop} (h:ae p):p:=h
theorem aj {α:Sort _} (e:α):∃x,x=e:=⟨_,rfl⟩
end
end Go.Proofs.YtbbapnpdfcgjnaaGreatDoor
