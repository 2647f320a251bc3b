package poly_test

import (
	"math/big"
	"strings"
	"testing"

	"marlinspike/api"
	"marlinspike/fr"
	"marlinspike/poly"
)

// Scalars by 16, that of 1 ahead. They were worked out apart from the program: the
// first polynomial's are 3^60, 3^120, .., 3^420, the second's 5^70, .., 5^280, and
// that through points came of seven equations for its seven scalars.
const (
	textOfProduct = `
		9ba21ff85d34d5b9379e668348fc34376007e9a28fd455aaec9d66ddd4db70f
		99341cd8fe7b6c5074b262b9d3ee85039de464df278caec08dc7749fb75e710
		127103658ba1bb70f6ab9088e9c295a3962f0ef592f117f7ffbde40315c6d99c
		861e521c93b4acb2136e14f5a4a0d9f0293ddd27f525efec645904763358bb0
		697f0fc75e49c286e91a97e612d643af43bd686b407ff95e2f4ca53204949fb
		b8c18c471429f5fe3b54acdec864903e51f40f95e0bb52d022a78b7c32e201b
		c4d0e7139f86af3b6d2a626e1172c1ffe5bf865a6af3a6f0135ef644736a717
		78464d31442dc3f6cd1bba77e80b5101b4fc91d1f0b8f910ef695b8de89e2e8
		2bc5746ac2d2a3e24b6c77a8698ca658a67d1e7f72a8cce2a1cf50708bb7e72
		5af695fd60f245a3d053976a625754d664a7e182ae93845187e6aa7bc9b3c6d`

	textOfQuotient = `
		50d6e429a1817fa306ac2878844d110c5f4f896e031b420051f358f1bfde32b
		661026ef355644a056debacb678c6aa928efbebb755a8c97f2b12ef9c80aa50
		f670ee33b2d9d329c7a57b26df3bbe973bbf0c9ba74c174ad75026fcf6516fa
		866f6429310b009a2d4118e41d3f5f5c94facfeb32ae68c14eaf7a4cbc44e2e`

	textOfRest = `
		33668df01abcab4c766baeda40c866785869649844d304561351f2a90a8f861
		2b1676b2e1473b1f44073feadbce39b7cc65f29e4c05fbfe5beb4f1df3d1f3f
		ab6cb5ab1d5f83182ec8bf1b91eb9a171a7d0a6801cb28828a0305e87bdfec2`

	textOfWorth = `
		983abe00f2083ba47a432355e0497795d29a447f24cee2e494689cae5affbb1`

	textOfPoints = `
		84d981ee915ab304170c323d56d3ac666a7b111c90db5cecb4b6cc0d17746eb
		2e66b111aa73ea75352e343469d69b231fec4c029064dc0a81a53cdc866ed2e
		122280ab58004339df86d17c62a67ea18b85183b3f62f75d994dd9fef747976c
		105b9b42ee22f409d8af004375b74a45988269a8903a6b096da6ff14c941b046
		933e27fd84606b8a45f6cadb92ab43f631a363751247570d405ff80a7ffca73
		e7680ca590f5b87365d6f72d6bf68024361dd1eaeeba66ba50810e290c6c391
		59faacf2e3c55c98fdb184ccbd272985d310b9c2ddf173b137ba2dfce99c908`
)

// told are the scalars of a text.
func told(t *testing.T, text string) (l []fr.El) {
	t.Helper()
	for _, word := range strings.Fields(text) {
		n, is := new(big.Int).SetString(word, 16)
		if !is {
			t.Fatalf("%s is no number", word)
		}
		var s api.Scalar
		n.FillBytes(s[:])
		x, e := fr.From(s)
		if e != api.OK {
			t.Fatal(e)
		}
		l = append(l, x)
	}
	return l
}

// powers are a number's by step, twice that, ..
func powers(base int64, step uint64, count int) []fr.El {
	l := make([]fr.El, count)
	for i := range l {
		l[i] = fr.Of(base).Pow([]uint64{step * uint64(i+1)})
	}
	return l
}

func TestNumbersThatWereWorkedOutApart(t *testing.T) {
	p, q := powers(3, 60, 7), powers(5, 70, 4)
	want(t, "Mul", poly.Mul(p, q), told(t, textOfProduct))
	want(t, "Mul, turned", poly.Mul(q, p), told(t, textOfProduct))
	quotient, rest, e := poly.DivMod(p, q)
	want(t, "the quotient", quotient, told(t, textOfQuotient))
	want(t, "the rest", rest, told(t, textOfRest))
	through, of := poly.Points(p, powers(7, 50, 7))
	want(t, "Points", through, told(t, textOfPoints))
	if e != api.OK || of != api.OK {
		t.Errorf("%v, %v", e, of)
	}
	worth := poly.Eval(p, fr.Of(11).Pow([]uint64{80}))
	want(t, "Eval", []fr.El{worth}, told(t, textOfWorth))
}
